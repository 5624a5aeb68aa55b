package batch_test

import (
	"math"
	"math/rand"
	"slices"
	"strings"
	"testing"
	"unicode/utf8"
	"unsafe"

	"calamus/api"
	"calamus/batch"
	"calamus/change"
)

// list is changes, as they are handed in.
type list = []api.Change

// wrong are bytes that are no valid texts.
func wrong() []string {
	return []string{"\xff", "\x80", "\xc3", "\xe2\x82", "\xf0\x9f\x98", "\xc0\x8a", "\xed\xa0\x80", "a\xff", "\xffa", "\u00e9\xa9"}
}

// place tells whether a rune of a valid text begins at at, or it ends there, by the library.
func place(t string, at int) bool {
	return at == len(t) || at >= 0 && at < len(t) && utf8.RuneStart(t[at])
}

// right is the chapter's words: each fits, and none stands ahead of the end of the one ahead of it.
func right(t string, l list) bool {
	end := 0
	for _, c := range l {
		if !utf8.ValidString(t) || !utf8.ValidString(c.Old) || !utf8.ValidString(c.New) {
			return false
		}
		if !place(t, c.At) || !strings.HasPrefix(t[c.At:], c.Old) || c.At < end {
			return false
		}
		end = c.At + len(c.Old)
	}
	return true
}

// made is the text behind changes that are right, made from the last to the first, each where it stood.
func made(t string, l list) string {
	for _, c := range slices.Backward(l) {
		t = t[:c.At] + c.New + t[c.At+len(c.Old):]
	}
	return t
}

// some is a text of up to n runes.
func some(r *rand.Rand, n int) string {
	runes := []string{"a", "b", "\n", "\u00e9", "\u00e8", "\u20ac", "\U0001f600"}
	s := ""
	for range r.Intn(n + 1) {
		s += runes[r.Intn(len(runes))]
	}
	return s
}

// several are up to n changes that may be made at once of a valid text: often just behind one another, or without bytes.
func several(r *rand.Rand, s string, n int) list {
	l := list{}
	cuts := make([]int, 2*r.Intn(n+1))
	for i := range cuts {
		cuts[i] = r.Intn(len(s) + 1)
		for !place(s, cuts[i]) {
			cuts[i]--
		}
	}
	slices.Sort(cuts)
	for i := 0; i < len(cuts); i += 2 {
		l = append(l, api.Change{At: cuts[i], Old: s[cuts[i]:cuts[i+1]], New: some(r, 3)})
	}
	return l
}

// P9.1: changes at once, by hand: all stand as offsets of the text ahead of them all.
func TestDo(t *testing.T) {
	for _, x := range []struct {
		t    string
		l    list
		want string
	}{
		{"abc", list{{Old: "a", New: "xx"}, {At: 2, Old: "c"}}, "xxb"},
		{"abc", nil, "abc"},
		{"abc", list{}, "abc"},
		{"", nil, ""},
		// Where no change is made, none is wrong.
		{"a\xff", nil, "a\xff"},
		{"", list{{}}, ""},
		{"", list{{New: "a"}}, "a"},
		{"", list{{New: "a"}, {New: "b"}, {New: "\u20ac"}}, "ab\u20ac"},
		{"abc", list{{}, {}, {At: 1}, {At: 3}, {At: 3}}, "abc"},
		{"abc", list{{At: 1, Old: "b", New: "b"}}, "abc"},
		{"abc", list{{Old: "abc"}}, ""},
		{"abc", list{{New: "x"}}, "xabc"},
		{"abc", list{{At: 3, New: "x"}}, "abcx"},
		{"abc", list{{New: "x"}, {At: 3, New: "y"}}, "xabcy"},
		// Just behind one another.
		{"abc", list{{Old: "a"}, {At: 1, Old: "b"}, {At: 2, Old: "c"}}, ""},
		{"abc", list{{Old: "a", New: "b"}, {At: 1, Old: "b", New: "c"}, {At: 2, Old: "c", New: "a"}}, "bca"},
		{"abcd", list{{Old: "ab", New: "1"}, {At: 2, Old: "cd", New: "2345"}}, "12345"},
		{"abc", list{{Old: "abc", New: "x"}, {At: 3, New: "y"}}, "xy"},
		// At the same place: what is put in first stands first.
		{"abc", list{{At: 1, New: "1"}, {At: 1, New: "2"}}, "a12bc"},
		{"abc", list{{At: 1, New: "1"}, {At: 1, Old: "b", New: "2"}}, "a12c"},
		{"abc", list{{At: 1, Old: "b", New: "1"}, {At: 2, New: "2"}, {At: 2, Old: "c", New: "3"}}, "a123"},
		{"abc", list{{At: 1}, {At: 1, Old: "bc"}, {At: 3}}, "a"},
		// What the one ahead puts in is not there yet for the next one.
		{"ab", list{{New: "b"}, {At: 1, Old: "b", New: "x"}}, "bax"},
		{"ab", list{{Old: "a", New: "xyz"}, {At: 1, Old: "b"}}, "xyz"},
		{"abc", list{{Old: "ab"}, {At: 2, Old: "c", New: "ab"}}, "ab"},
		// Runes of several bytes.
		{"a\u00e9\n\U0001f600", list{{At: 1, Old: "\u00e9", New: "\u20ac"}, {At: 4, Old: "\U0001f600", New: "z\n"}}, "a\u20ac\nz\n"},
		{"\u00e9\u00e9", list{{Old: "\u00e9", New: "a"}, {At: 2, New: "\u20ac"}, {At: 2, Old: "\u00e9"}}, "a\u20ac"},
	} {
		if !batch.Right(x.t, x.l...) {
			t.Errorf("Right(%q, %+v)", x.t, x.l)
		}
		if s, e := batch.Do(x.t, x.l...); s != x.want || e != api.OK {
			t.Errorf("Do(%q, %+v): %q, error %d", x.t, x.l, s, e)
		}
	}
}

// notRight are texts and changes that may not be made at once of them.
func notRight() map[string][]list {
	ok := api.Change{}
	m := map[string][]list{
		"": {{{At: 1}}, {{At: -1}}, {{Old: "a"}}, {ok, {Old: "\n"}}},
		"abcde": {
			// They overlap.
			{{Old: "ab"}, {At: 1, Old: "bc"}}, {{Old: "ab"}, {At: 1}}, {{At: 1, Old: "bc"}, {At: 2, Old: "c"}}, {{At: 1, Old: "bcd"}, {At: 2, Old: "c"}},
			{{Old: "a"}, {Old: "a"}}, {{Old: "a"}, {New: "x"}}, {{Old: "abcde"}, {At: 4}}, {{Old: "ab"}, {At: 2, Old: "cd"}, {At: 3, Old: "d"}},
			// Each stands rightly behind the one ahead of it, but not behind the first.
			{{At: 2, Old: "cd"}, {At: 1}, {At: 4}},
			// They do not stand in their order.
			{{At: 3}, {At: 1}}, {{At: 1, Old: "b"}, {}}, {{At: 4, Old: "e"}, {At: 1, Old: "b"}}, {ok, {At: 5}, {At: 4}}, {{At: 2, New: "x"}, {At: 1, New: "y"}, {At: 3}},
			// One does not fit: the first, one between, the last.
			{{Old: "b"}}, {{At: -1}, {At: 1}}, {ok, {At: 6}}, {{At: -2, Old: "ab"}}, {ok, {At: 1, Old: "c"}, {At: 4}}, {ok, {At: 4, Old: "ef"}}, {{At: 5, Old: "e"}}, {{At: math.MinInt}}, {ok, {At: math.MaxInt}}, {{At: math.MaxInt, Old: "a"}, ok}, {{At: 1 << 32}}, {{At: -1, Old: ""}, {At: 5, Old: ""}},
			// It would fit behind the one ahead of it, but not ahead of it.
			{{New: "x"}, {At: 6}}, {{Old: "a", New: "xyz"}, {At: 2, Old: "z"}}, {{Old: "ab"}, {At: 2, Old: "de"}},
		},
		// Within a rune, also where the bytes stand there.
		"a\u00e9\U0001f600": {{{At: 2}}, {ok, {At: 2, Old: "\xa9"}}, {{At: 1, Old: "\xc3"}}, {{At: 1, Old: "\xc3"}, {At: 2, Old: "\xa9"}}, {{At: 1, Old: "\u00e9"}, {At: 5}}, {{At: 3, Old: "\U0001f601"}}},
	}
	for _, s := range wrong() {
		m[s] = append(m[s], list{ok}, list{ok, ok}, list{{At: len(s)}}, list{{Old: s}}, list{{Old: s, New: "ok"}}, list{{New: "x"}})
		m["abcde"] = append(m["abcde"], list{{New: s}}, list{{Old: s}}, list{ok, {At: 1, Old: "b", New: s}, {At: 3}}, list{{At: 1, New: "x" + s}, {At: 5}}, list{ok, {Old: "abcde" + s}})
	}
	return m
}

// P9.1, P9.4: what may not be made at once: neither is it told to, nor made, nor does it come to a change.
func TestNotRight(t *testing.T) {
	for s, ls := range notRight() {
		for _, l := range ls {
			if batch.Right(s, l...) {
				t.Errorf("Right(%q, %+v)", s, l)
			}
			if text, e := batch.Do(s, l...); text != "" || e != api.ErrArg {
				t.Errorf("Do(%q, %+v): %q, error %d", s, l, text, e)
			}
			if c := batch.Net(s, l...); c != (api.Change{}) {
				t.Errorf("Net(%q, %+v): %+v", s, l, c)
			}
		}
	}
}

// around are all changes of a text with Olds from within runes to within runes, and Ats beside the text.
func around(s string) list {
	olds := map[string]bool{"x": true}
	for from := range len(s) + 1 {
		for to := from; to <= len(s); to++ {
			olds[s[from:to]] = true
		}
	}
	l := list{}
	for old := range olds {
		for at := -1; at <= len(s)+1; at++ {
			for _, text := range []string{"", "\u20acx", "\xa9"} {
				l = append(l, api.Change{At: at, Old: old, New: text})
			}
		}
	}
	return l
}

// P9.1, P9.2, P9.4, P9.5: all pairs of changes of short texts, against the chapter's words.
func TestAllPairs(t *testing.T) {
	n := 0
	for _, s := range append(wrong()[:3], "", "a", "ab", "aba", "\u00e9", "a\u00e9", "\u00e9a", "\n\u20ac") {
		all := around(s)
		for _, a := range all {
			hold(t, s, list{a})
			for _, b := range all {
				if hold(t, s, list{a, b}) {
					n++
				}
			}
		}
	}
	if n < 300 {
		t.Errorf("%d pairs may be made", n)
	}
}

// P9.1, P9.2, P9.4, P9.5: more changes of longer texts, as they may be made, and with one of them moved.
func TestSeveral(t *testing.T) {
	r := rand.New(rand.NewSource(9))
	n := 0
	for range 5000 {
		s := some(r, 20)
		l := several(r, s, 6)
		if !hold(t, s, l) {
			t.Fatalf("%q, %+v", s, l)
		}
		if len(l) == 0 {
			continue
		}
		l[r.Intn(len(l))].At += r.Intn(5) - 2
		if !hold(t, s, l) {
			n++
		}
	}
	if n < 1000 {
		t.Errorf("%d may not be made", n)
	}
}

// hold holds against what is promised what is told of changes of a text that has room for them, and tells whether they may be made.
func hold(t *testing.T, s string, l list) bool {
	t.Helper()
	want, text, e := right(s, l), "", api.ErrArg
	if want {
		text, e = made(s, l), api.OK
	}
	if batch.Right(s, l...) != want {
		t.Fatalf("Right(%q, %+v): %v", s, l, !want)
	}
	if got, err := batch.Do(s, l...); got != text || err != e {
		t.Fatalf("Do(%q, %+v): %q, error %d; wanted %q, %d", s, l, got, err, text, e)
	}
	net := api.Change{}
	if want {
		net = change.Diff(s, text)
		back := batch.Turn(l...)
		if got, err := batch.Do(text, back...); !batch.Right(text, back...) || got != s || err != api.OK {
			t.Fatalf("%q, %+v, turned %+v: %q, error %d", s, l, back, got, err)
		}
	}
	if got := batch.Net(s, l...); got != net {
		t.Fatalf("Net(%q, %+v): %+v, not %+v", s, l, got, net)
	}
	return want
}

// P9.1: how much room there is behind them all, and which error comes first.
func TestDoRoom(t *testing.T) {
	full := strings.Repeat("a", api.MaxText)
	over := full + "a"
	wide := strings.Repeat("\u00e9", api.MaxText/2)
	last := api.MaxText - 1
	for name, x := range map[string]struct {
		t    string
		l    list
		want string
		e    api.Errno
	}{
		"all of it put in":           {"", list{{New: full}}, full, api.OK},
		"too much put in":            {"", list{{New: over}}, "", api.ErrRoom},
		"put in by two":              {"", list{{New: full[1:]}, {New: "b"}}, full[1:] + "b", api.OK},
		"too much put in by two":     {"", list{{New: full}, {New: "b"}}, "", api.ErrRoom},
		"up to the limit":            {full[2:], list{{New: "b"}, {At: last - 1, New: "c"}}, "b" + full[2:] + "c", api.OK},
		"one above it":               {full[1:], list{{New: "b"}, {At: last, New: "c"}}, "", api.ErrRoom},
		"full, none made":            {full, nil, full, api.OK},
		"full, of no bytes":          {full, list{{}, {At: api.MaxText}}, full, api.OK},
		"full, one put in":           {full, list{{At: api.MaxText, New: "b"}}, "", api.ErrRoom},
		"longer between, first out":  {full, list{{Old: "a"}, {At: api.MaxText, New: "b"}}, full[1:] + "b", api.OK},
		"longer between, first in":   {full, list{{New: "b"}, {At: last, Old: "a"}}, "b" + full[1:], api.OK},
		"longer between, much in":    {full, list{{At: 1, New: full}, {At: 1, Old: full[1:]}}, "", api.ErrRoom},
		"longer between, all out":    {full, list{{New: full}, {Old: full}}, full, api.OK},
		"longer between, out and in": {full, list{{Old: "aa"}, {At: 2, New: "bcd"}, {At: last, Old: "a"}}, "bcd" + full[3:], api.OK},
		"one too long between":       {full, list{{Old: "aa"}, {At: 2, New: "bcde"}, {At: last, Old: "a"}}, "", api.ErrRoom},
		"bytes, not runes":           {wide, list{{New: "b"}}, "", api.ErrRoom},
		"runes for runes":            {wide, list{{Old: "\u00e9", New: "a"}, {At: 2, Old: "\u00e9", New: "\u20ac"}}, "a\u20ac" + wide[4:], api.OK},
		"a longer rune":              {wide, list{{At: 2, Old: "\u00e9", New: "\u20ac"}}, "", api.ErrRoom},
		"too long, then fewer":       {over, list{{Old: "a"}}, full, api.OK},
		"too long, then half":        {over + over, list{{Old: over[:9]}, {At: 9, Old: over[1:]}}, full[7:], api.OK},
		"too long, still":            {over + "a", list{{Old: "a"}}, "", api.ErrRoom},
		"too long, of no bytes":      {over, list{{}}, "", api.ErrRoom},
		"too long, none made":        {over, nil, "", api.ErrRoom},
		"no room, then unfit":        {full, list{{New: "b"}, {At: 1, Old: "?"}}, "", api.ErrArg},
		"no room, and overlapping":   {full, list{{New: full}, {Old: "aa"}, {At: 1}}, "", api.ErrArg},
		"no room, and no order":      {full, list{{At: 2, New: full}, {At: 1}}, "", api.ErrArg},
		"no room, and not valid":     {full, list{{New: "b"}, {New: "\xff"}}, "", api.ErrArg},
		"too long, and not valid":    {over + "\xff", list{{Old: "aa"}}, "", api.ErrArg},
	} {
		if s, e := batch.Do(x.t, x.l...); s != x.want || e != x.e {
			t.Errorf("%s: %d bytes, error %d", name, len(s), e)
		}
		if batch.Right(x.t, x.l...) != (x.e != api.ErrArg) {
			t.Errorf("%s: Right", name)
		}
		net := batch.Net(x.t, x.l...)
		if x.e == api.OK && net != change.Diff(x.t, x.want) || x.e != api.OK && net != (api.Change{}) {
			t.Errorf("%s: Net at %d, %d and %d bytes", name, net.At, len(net.Old), len(net.New))
		}
	}
}

// P9.2: turned changes, by hand: they stand where those ahead of them have led them.
func TestTurn(t *testing.T) {
	for _, x := range [][2]list{
		{nil, nil},
		{list{{Old: "a", New: "xx"}, {At: 2, Old: "c"}}, list{{Old: "xx", New: "a"}, {At: 3, New: "c"}}},
		{list{{}}, list{{}}},
		{list{{At: 5, Old: "a"}}, list{{At: 5, New: "a"}}},
		{list{{At: 5, New: "\u00e9"}}, list{{At: 5, Old: "\u00e9"}}},
		{list{{At: 1, New: "1"}, {At: 1, New: "2"}, {At: 1}}, list{{At: 1, Old: "1"}, {At: 2, Old: "2"}, {At: 3}}},
		{list{{Old: "ab"}, {At: 2, Old: "cd"}, {At: 4, Old: "e", New: "\u20ac"}, {At: 9}}, list{{New: "ab"}, {New: "cd"}, {Old: "\u20ac", New: "e"}, {At: 7}}},
		{list{{At: 1, Old: "b", New: "xyz"}, {At: 2, Old: "c", New: "c"}, {At: 7, Old: "hij"}, {At: 10, New: "!"}}, list{{At: 1, Old: "xyz", New: "b"}, {At: 4, Old: "c", New: "c"}, {At: 9, New: "hij"}, {At: 9, Old: "!"}}},
		// Whatever the text: of these there is none.
		{list{{At: -3, Old: "ab", New: "c"}, {At: -1, New: "de"}, {At: 4}}, list{{At: -3, Old: "c", New: "ab"}, {At: -2, Old: "de"}, {At: 5}}},
		{list{{Old: "\xff", New: "\x80\x80"}, {At: 1, Old: "b"}}, list{{Old: "\x80\x80", New: "\xff"}, {At: 2, New: "b"}}},
		{list{{Old: "a"}, {At: 1 << 50, Old: "b"}}, list{{New: "a"}, {At: 1<<50 - 1, New: "b"}}},
		{list{{At: math.MinInt, Old: "a", New: "b"}, {At: math.MaxInt, Old: "a"}}, list{{At: math.MinInt, Old: "b", New: "a"}, {At: math.MaxInt, New: "a"}}},
		{list{{At: math.MaxInt}, {At: math.MaxInt, Old: "a", New: "b"}}, list{{At: math.MaxInt}, {At: math.MaxInt, Old: "b", New: "a"}}},
	} {
		turned := batch.Turn(x[0]...)
		if !slices.Equal(turned, x[1]) {
			t.Errorf("%+v: %+v", x[0], turned)
		}
		if again := batch.Turn(turned...); !slices.Equal(again, x[0]) {
			t.Errorf("%+v, turned twice: %+v", x[0], again)
		}
	}
}

// P9.2: of changes that overlap, or that do not stand in their order, none are told.
func TestTurnOfNoOrder(t *testing.T) {
	for _, l := range []list{
		{{At: 3}, {At: 1}},
		{{At: 1}, {}},
		{{At: 1}, {At: -1}},
		{{Old: "ab"}, {At: 1, Old: "bc"}},
		{{Old: "ab"}, {At: 1}},
		{{Old: "a"}, {Old: "a"}},
		{{Old: "\u20ac"}, {At: 2}},
		{{Old: "a", New: "xyz"}, {At: 1}, {At: 5}, {At: 4}},
		{{At: 2, Old: "cd"}, {At: 1}, {At: 4}},
		{{}, {At: 3, Old: "abc"}, {At: 5, Old: "\xff"}},
		{{At: -3, Old: "abc"}, {At: -1}},
		// The end of the one ahead is above all numbers, or far above the other one.
		{{At: math.MaxInt, Old: "a"}, {At: math.MaxInt}},
		{{At: math.MaxInt, Old: "a"}, {At: math.MinInt}},
		{{At: math.MaxInt - 1, Old: "abc"}, {At: math.MaxInt, Old: "d"}},
		{{At: math.MaxInt}, {At: math.MinInt}},
		{{}, {At: math.MinInt}},
		{{At: 1, Old: "b"}, {At: math.MinInt}},
	} {
		if turned := batch.Turn(l...); len(turned) != 0 {
			t.Errorf("%+v: %+v", l, turned)
		}
		if batch.Right("abcdefgh", l...) {
			t.Errorf("%+v may be made", l)
		}
	}
}

// P9.3: where places go, one by one: ahead of them all, at an At, within an Old, at an Old's end, between two, and behind them all.
func TestShift(t *testing.T) {
	for _, x := range []struct {
		l    list
		from int
		to   []int
	}{
		{nil, -2, []int{-2, -1, 0, 1, 2}},
		{list{}, 3, []int{3}},
		{list{{}, {}}, -1, []int{-1, 0, 1}},
		{list{{Old: "a", New: "xx"}, {At: 2, Old: "c"}}, -1, []int{-1, 0, 2, 3, 3, 4}},
		{list{{At: 1, Old: "bc", New: "-"}, {At: 5, Old: "fg", New: "xyz"}}, -1, []int{-1, 0, 1, 1, 2, 3, 4, 4, 7, 8}},
		{list{{At: 1, Old: "b"}, {At: 3, Old: "d"}, {At: 5, Old: "f"}}, 0, []int{0, 1, 1, 2, 2, 3, 3, 4}},
		// Just behind one another.
		{list{{At: 1, Old: "bc", New: "x"}, {At: 3, Old: "de", New: "yz!"}}, 0, []int{0, 1, 1, 2, 2, 5, 6}},
		{list{{Old: "ab"}, {At: 2, Old: "cd"}}, -1, []int{-1, 0, 0, 0, 0, 0, 1}},
		// What is put in stands ahead of what was at the place.
		{list{{At: 1, New: "1"}, {At: 1, New: "23"}}, 0, []int{0, 4, 5}},
		{list{{At: 1, New: "1"}, {At: 1, Old: "bc", New: "2"}}, 0, []int{0, 2, 2, 3, 4}},
		{list{{At: 1, Old: "bc", New: "2"}, {At: 3, New: "1"}}, 0, []int{0, 1, 1, 3, 4}},
		// Bytes are counted, not runes.
		{list{{Old: "\u00e9", New: "\u20ac"}, {At: 3, Old: "\u20ac", New: "\U0001f600"}}, -1, []int{-1, 0, 0, 3, 4, 4, 4, 8, 9}},
		// Changes that may not be made at once: from the last to the first all the same.
		{list{{At: 3, New: "ab"}, {Old: "xy"}}, 0, []int{0, 0, 0, 1, 2, 5, 6}},
		{list{{Old: "xy"}, {At: 3, New: "ab"}}, 0, []int{0, 0, 0, 3, 4}},
		{list{{At: 1, New: "abc"}, {Old: "x"}, {At: 2, New: "y"}}, 0, []int{0, 0, 5, 6}},
		{list{{Old: "xyz"}, {At: 1, Old: "y", New: "\xff\xff"}}, 0, []int{0, 0, 0, 1, 2}},
		{list{{At: 1 << 40, New: "a"}, {At: -1 << 40, New: "b"}}, 1<<40 - 2, []int{1<<40 - 1, 1<<40 + 1}},
	} {
		for i, want := range x.to {
			if p := batch.Shift(x.from+i, x.l...); p != want {
				t.Errorf("%d, %+v: %d, not %d", x.from+i, x.l, p, want)
			}
		}
	}
}

// P9.3: layer 8's Shift from the last to the first; of changes that may be made, what stands ahead of a place outside of all Olds stands ahead of it then, and so what is behind it.
func TestShiftBySeveral(t *testing.T) {
	r := rand.New(rand.NewSource(93))
	for range 3000 {
		s := some(r, 16)
		l := several(r, s, 5)
		behind := made(s, l)
		backward := slices.Clone(l)
		slices.Reverse(backward)
		for p := -3; p <= len(s)+3; p++ {
			to := batch.Shift(p, l...)
			if to != change.Shift(p, backward...) {
				t.Fatalf("%q, %+v: from %d to %d", s, l, p, to)
			}
			if place(s, p) && !place(behind, to) {
				t.Fatalf("%q, %+v: from %d to %d, no place of %q", s, l, p, to, behind)
			}
			ahead, inside := 0, false
			for i, c := range l {
				if c.At+len(c.Old) <= p {
					ahead = i + 1
				}
				inside = inside || c.At <= p && p < c.At+len(c.Old)
			}
			if place(s, p) && !inside && (behind[:to] != made(s[:p], l[:ahead]) || len(behind)-to != len(made(s, l[ahead:]))-p) {
				t.Fatalf("%q, %+v: from %d to %d of %q", s, l, p, to, behind)
			}
		}
	}
}

// P9.4: what changes come to, by hand.
func TestNet(t *testing.T) {
	for _, x := range []struct {
		t string
		l list
		c api.Change
	}{
		{"abc", nil, api.Change{}},
		{"a\xff", nil, api.Change{}},
		{"abc", list{{}, {At: 1, Old: "b", New: "b"}, {At: 3}}, api.Change{}},
		{"abc", list{{Old: "a", New: "xx"}, {At: 2, Old: "c"}}, api.Change{Old: "abc", New: "xxb"}},
		{"abc", list{{At: 1, Old: "b", New: "x"}}, api.Change{At: 1, Old: "b", New: "x"}},
		{"abc", list{{Old: "abc", New: "axc"}}, api.Change{At: 1, Old: "b", New: "x"}},
		{"abcdef", list{{At: 1, Old: "b", New: "x"}, {At: 4, Old: "e"}}, api.Change{At: 1, Old: "bcde", New: "xcd"}},
		{"", list{{New: "a"}, {New: "b"}}, api.Change{New: "ab"}},
		{"abc", list{{Old: "ab"}, {At: 2, Old: "c"}}, api.Change{Old: "abc"}},
		// One makes what the other one takes away: nothing is left of both.
		{"aa", list{{Old: "a"}, {At: 2, New: "a"}}, api.Change{}},
		{"aba", list{{Old: "a"}, {At: 1, New: "a"}}, api.Change{}},
		{"ab", list{{New: "b"}, {At: 1, Old: "b"}}, api.Change{Old: "ab", New: "ba"}},
		{"x\u00e9", list{{At: 1, Old: "\u00e9", New: "\u00e8"}}, api.Change{At: 1, Old: "\u00e9", New: "\u00e8"}},
	} {
		if c := batch.Net(x.t, x.l...); c != x.c {
			t.Errorf("%q, %+v: %+v", x.t, x.l, c)
		}
	}
}

// P9.5: made at once is the same as one by one, from the last to the first, for the text and for places; what is turned leads both back.
func TestOneByOne(t *testing.T) {
	r := rand.New(rand.NewSource(95))
	for range 3000 {
		s := some(r, 16)
		l := several(r, s, 5)
		backward := slices.Clone(l)
		slices.Reverse(backward)
		text, e := batch.Do(s, l...)
		if one, err := change.Do(s, backward...); text != one || e != err {
			t.Fatalf("%q, %+v: %q, error %d; one by one %q, %d", s, l, text, e, one, err)
		}
		turned := batch.Turn(l...)
		if again := batch.Turn(turned...); !slices.Equal(again, l) {
			t.Fatalf("%+v, turned twice: %+v", l, again)
		}
		if c := batch.Net(text, turned...); c != change.Diff(text, s) {
			t.Fatalf("%q, %+v: %+v", text, turned, c)
		}
		for p := range len(s) + 1 {
			outside := !slices.ContainsFunc(l, func(c api.Change) bool { return c.At <= p && p < c.At+len(c.Old) })
			if back := batch.Shift(batch.Shift(p, l...), turned...); outside && back != p {
				t.Fatalf("%q, %+v: from %d back to %d", s, l, p, back)
			}
		}
	}
}

// P9.1, P9.2: as many changes as a text has bytes, and one more.
func TestMany(t *testing.T) {
	s := strings.Repeat("a", api.MaxText)
	l := list{}
	for at := range s {
		l = append(l, api.Change{At: at, Old: "a", New: "b"})
	}
	want := strings.Repeat("b", api.MaxText)
	if text, e := batch.Do(s, append(l, api.Change{At: api.MaxText})...); text != want || e != api.OK {
		t.Errorf("%d bytes, error %d", len(text), e)
	}
	if text, e := batch.Do(want, batch.Turn(l...)...); text != s || e != api.OK {
		t.Errorf("back: %d bytes, error %d", len(text), e)
	}
	if c := batch.Net(s, l...); c != (api.Change{Old: s, New: want}) {
		t.Errorf("At %d, %d and %d bytes", c.At, len(c.Old), len(c.New))
	}
}

// shared tells whether two texts lie in the same memory.
func shared(a, b string) bool {
	from, to := uintptr(unsafe.Pointer(unsafe.StringData(a))), uintptr(unsafe.Pointer(unsafe.StringData(b)))
	return from < to+uintptr(len(b)) && to < from+uintptr(len(a))
}

// An answer is new memory, also where it is an argument as it came, and where the same text is handed in twice.
func TestAnswersAreNew(t *testing.T) {
	s := strings.Clone("abc")
	for _, l := range []list{
		nil,
		{{}},
		{{At: 1}, {At: 3}},
		{{Old: s}},
		{{Old: s, New: s}, {At: 3, New: s}},
		{{New: s}, {New: s}, {Old: s}},
		{{Old: s[:1], New: s}, {At: 1, Old: s[1:2]}, {At: 2, Old: s[2:], New: s}},
	} {
		text, _ := batch.Do(s, l...)
		net := batch.Net(s, l...)
		turned := batch.Turn(l...)
		given, answers := []string{s}, []string{text, net.Old, net.New}
		for i, c := range turned {
			answers = append(answers, c.Old, c.New)
			given = append(given, l[i].Old, l[i].New)
		}
		for i, x := range answers {
			for _, other := range slices.Concat(given, answers[:i]) {
				if shared(x, other) {
					t.Errorf("%+v: %q", l, x)
				}
			}
		}
		for i := range turned {
			turned[i] = api.Change{At: -1}
		}
		for _, c := range append(l, batch.Turn(l...)...) {
			if c.At < 0 {
				t.Errorf("%+v: an answer lies where another list does", l)
			}
		}
	}
}

// A list that is handed in is not changed, nor what stands behind its end.
func TestListStays(t *testing.T) {
	all := list{{At: 1, Old: "b", New: "xy"}, {At: 2, Old: "c"}, {At: 2, Old: "behind"}, {At: -1, New: "\xff"}}
	l := slices.Clone(all)
	for n := range len(l) + 1 {
		batch.Right("abc", l[:n]...)
		batch.Do("abc", l[:n]...)
		batch.Turn(l[:n]...)
		batch.Shift(3, l[:n]...)
		batch.Net("abc", l[:n]...)
	}
	if !slices.Equal(l, all) {
		t.Errorf("%+v", l)
	}
}

// Whatever is handed in, each call ends and none panics.
func TestAnything(t *testing.T) {
	parts := append(wrong()[:4], "", "ab", "a\u00e9", strings.Repeat("b", api.MaxText+1))
	ats := []int{math.MinInt, math.MinInt + 1, -1 << 40, -1, 0, 1, 2, api.MaxText, 1 << 40, math.MaxInt - 1, math.MaxInt}
	for _, s := range parts {
		for _, old := range parts {
			for _, at := range ats {
				c := api.Change{At: at, Old: old, New: s}
				for _, other := range ats {
					d := api.Change{At: other, Old: s, New: old}
					if batch.Right(s, c, d) != right(s, list{c, d}) {
						t.Errorf("Right(%.20q, At %d, Old %.20q; At %d)", s, at, old, other)
					}
					batch.Do(s, c, d, c)
					batch.Turn(c, d)
					batch.Shift(at, c, d)
					batch.Shift(other, d, d, c)
					batch.Net(s, d, c)
				}
			}
		}
	}
}
