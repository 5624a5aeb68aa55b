package mark_test

import (
	"math"
	"math/rand"
	"slices"
	"strings"
	"testing"

	"calamus/api"
	"calamus/change"
	"calamus/mark"
)

// list is marks, as they are handed in; changes are what they are moved by.
type (
	list    = []api.Mark
	changes = []api.Change
)

const (
	letters = "abcdefghijklmnopqrstuvwxyz"
	far     = 1 << 40
)

// named are numbers that are names, and all that lie beside them in some way.
func named() []int {
	l := []int{math.MinInt, math.MinInt + 'a', -far, math.MinInt32, 'a' - 256, -'a', 'a' + 256, 'm' + 1<<16, 'a' + 1<<32, 'z' + 1<<40, math.MaxInt32, math.MaxInt}
	for n := -2; n < 300; n++ {
		l = append(l, n)
	}
	return l
}

// notNames are some of those that are none.
func notNames() []int {
	return []int{'a' - 1, 'z' + 1, 'A', 'M', 'Z', '0', ' ', 0, -1, 1, 255, -'a', 'a' + 256, 'a' + 1<<32, 0xe9, math.MinInt, math.MaxInt}
}

// notAts are numbers at which no mark may be.
func notAts() []int {
	return []int{-1, -2, -api.MaxText, -far, math.MinInt, far + 1, far + 2, 1 << 50, math.MaxInt}
}

// right is the chapter's words.
func right(l list) bool {
	last := 0
	for _, m := range l {
		if m.Name < 'a' || m.Name > 'z' || m.At < 0 || m.At > 1099511627776 || m.Name <= last {
			return false
		}
		last = m.Name
	}
	return true
}

// marks are marks at places, which have the names from a on.
func marks(ats ...int) list {
	l := list{}
	for i, at := range ats {
		l = append(l, api.Mark{Name: 'a' + i, At: at})
	}
	return l
}

// all are marks of all the names.
func all() list {
	l := list{}
	for i, c := range letters {
		l = append(l, api.Mark{Name: int(c), At: (i * 7) % 26})
	}
	return l
}

// rights are marks that may be: none, one, some, and all twenty-six.
func rights() []list {
	l := []list{
		nil,
		{},
		{{Name: 'a'}},
		{{Name: 'z'}},
		{{Name: 'm', At: 5}},
		{{Name: 'a', At: far}},
		{{Name: 'z', At: far - 1}},
		{{Name: 'a', At: 1}, {Name: 'b', At: 1}},
		{{Name: 'a', At: far}, {Name: 'z'}},
		{{Name: 'b', At: 9}, {Name: 'm', At: 3}, {Name: 'y', At: 3}},
		{{Name: 'c', At: 4095}, {Name: 'd', At: 4096}, {Name: 'e', At: 4097}, {Name: 'x'}},
		all(),
	}
	for i := range letters {
		l = append(l, all()[:i], all()[i:], slices.Delete(all(), i, i+1))
	}
	return l
}

// wrongs are marks that may not be.
func wrongs() []list {
	l := []list{
		// They do not rise.
		{{Name: 'b'}, {Name: 'a'}},
		{{Name: 'z', At: 1}, {Name: 'a', At: 2}},
		{{Name: 'a'}, {Name: 'c'}, {Name: 'b'}},
		{{Name: 'b'}, {Name: 'a'}, {Name: 'c'}},
		{{Name: 'a'}, {Name: 'd'}, {Name: 'b'}, {Name: 'e'}},
		{{Name: 'c'}, {Name: 'd'}, {Name: 'a'}, {Name: 'b'}},
		// One name twice.
		{{Name: 'a'}, {Name: 'a'}},
		{{Name: 'a', At: 1}, {Name: 'a', At: 2}},
		{{Name: 'a'}, {Name: 'm'}, {Name: 'm'}, {Name: 'z'}},
		{{Name: 'a'}, {Name: 'z'}, {Name: 'z', At: far}},
		{{Name: 'a'}, {Name: 'b'}, {Name: 'a'}},
		append(all(), api.Mark{Name: 'z'}),
		append(all(), all()...),
		// What stands first, or last, is no name, though they rise.
		append(list{{Name: 'a' - 1}}, all()...),
		append(all(), api.Mark{Name: 'z' + 1}),
		{{}},
		{{}, {Name: 'a'}},
	}
	for i := range letters {
		for _, n := range notNames() {
			x := all()
			x[i].Name = n
			l = append(l, list{{Name: n}}, x)
		}
		for _, at := range notAts() {
			x := all()
			x[i].At = at
			l = append(l, list{{Name: 'a' + i, At: at}}, x)
		}
	}
	return l
}

// P10.1: the names are a to z, and nothing else.
func TestName(t *testing.T) {
	n := 0
	for _, x := range named() {
		want := x > 0 && x < 128 && strings.Contains(letters, string(rune(x)))
		if mark.Name(x) != want {
			t.Errorf("%d: %v", x, !want)
		}
		if want {
			n++
		}
	}
	if n != 26 {
		t.Errorf("%d names", n)
	}
	for _, x := range notNames() {
		if mark.Name(x) {
			t.Errorf("%d", x)
		}
	}
}

// P10.1: marks that may be, and marks that may not be, by hand.
func TestRight(t *testing.T) {
	for _, l := range rights() {
		if !mark.Right(l) {
			t.Errorf("%v", l)
		}
	}
	for _, l := range wrongs() {
		if mark.Right(l) {
			t.Errorf("%v may be", l)
		}
	}
}

// P10.1: all lists of up to three of some marks, against the chapter's words.
func TestRightOfAll(t *testing.T) {
	some := list{}
	for _, n := range []int{'a' - 1, 'a', 'b', 'y', 'z', 'z' + 1, 'B'} {
		for _, at := range []int{-1, 0, 7, far, far + 1} {
			some = append(some, api.Mark{Name: n, At: at})
		}
	}
	n := 0
	hold := func(l list) {
		if mark.Right(l) != right(l) {
			t.Errorf("%v: %v", l, !right(l))
		}
		if right(l) {
			n++
		}
	}
	for _, x := range some {
		hold(list{x})
		for _, y := range some {
			hold(list{x, y})
			for _, z := range some {
				hold(list{x, y, z})
			}
		}
	}
	if n != 4*3+6*9+4*27 {
		t.Errorf("%d may be", n)
	}
}

// P10.2: what is set, by hand: ahead of all others, between two, behind all, and in the place of the one of that name.
func TestSet(t *testing.T) {
	three := list{{Name: 'b', At: 9}, {Name: 'm', At: 3}, {Name: 'y', At: far}}
	for _, x := range []struct {
		l        list
		name, at int
		want     list
	}{
		{nil, 'b', 4, list{{Name: 'b', At: 4}}},
		{list{}, 'z', 0, list{{Name: 'z'}}},
		{list{{Name: 'b', At: 4}}, 'a', 7, list{{Name: 'a', At: 7}, {Name: 'b', At: 4}}},
		{list{{Name: 'b', At: 4}}, 'c', 7, list{{Name: 'b', At: 4}, {Name: 'c', At: 7}}},
		{list{{Name: 'b', At: 4}}, 'b', 7, list{{Name: 'b', At: 7}}},
		{list{{Name: 'b', At: 4}}, 'b', 4, list{{Name: 'b', At: 4}}},
		{three, 'a', 0, list{{Name: 'a'}, three[0], three[1], three[2]}},
		{three, 'l', 3, list{three[0], {Name: 'l', At: 3}, three[1], three[2]}},
		{three, 'n', far, list{three[0], three[1], {Name: 'n', At: far}, three[2]}},
		{three, 'z', 1, list{three[0], three[1], three[2], {Name: 'z', At: 1}}},
		{three, 'b', 0, list{{Name: 'b'}, three[1], three[2]}},
		{three, 'm', far, list{three[0], {Name: 'm', At: far}, three[2]}},
		{three, 'y', 0, list{three[0], three[1], {Name: 'y'}}},
		{list{{Name: 'z', At: 1}}, 'a', far, list{{Name: 'a', At: far}, {Name: 'z', At: 1}}},
		{list{{Name: 'a', At: far}}, 'z', 0, list{{Name: 'a', At: far}, {Name: 'z'}}},
	} {
		if l, e := mark.Set(x.l, x.name, x.at); !slices.Equal(l, x.want) || e != api.OK {
			t.Errorf("%v, %c at %d: %v, error %d", x.l, x.name, x.at, l, e)
		}
	}
}

// P10.2: where a mark is, and marks without it, by hand.
func TestGetDrop(t *testing.T) {
	three := list{{Name: 'b', At: 9}, {Name: 'm', At: 0}, {Name: 'y', At: far}}
	for _, x := range []struct {
		l    list
		name int
		at   int
		ok   bool
		rest list
	}{
		{nil, 'a', 0, false, nil},
		{list{}, 'z', 0, false, nil},
		{list{{Name: 'a', At: 5}}, 'a', 5, true, nil},
		{list{{Name: 'a', At: 5}}, 'b', 0, false, list{{Name: 'a', At: 5}}},
		{list{{Name: 'z', At: far}}, 'z', far, true, nil},
		{list{{Name: 'z', At: far}}, 'y', 0, false, list{{Name: 'z', At: far}}},
		{three, 'b', 9, true, list{three[1], three[2]}},
		{three, 'm', 0, true, list{three[0], three[2]}},
		{three, 'y', far, true, list{three[0], three[1]}},
		{three, 'a', 0, false, three},
		{three, 'c', 0, false, three},
		{three, 'l', 0, false, three},
		{three, 'n', 0, false, three},
		{three, 'x', 0, false, three},
		{three, 'z', 0, false, three},
		// Of what is no name there is no mark.
		{three, 'M', 0, false, three},
		{three, 'm' + 256, 0, false, three},
		{three, 'm' + 1<<32, 0, false, three},
		{three, 0, 0, false, three},
		{nil, 0, 0, false, nil},
	} {
		if at, ok := mark.Get(x.l, x.name); at != x.at || ok != x.ok {
			t.Errorf("Get(%v, %d): %d, %v", x.l, x.name, at, ok)
		}
		if l := mark.Drop(x.l, x.name); !slices.Equal(l, x.rest) {
			t.Errorf("Drop(%v, %d): %v", x.l, x.name, l)
		}
	}
}

// P10.2: each name, and what is none, with many marks: what is told is as if one went through them.
func TestEachName(t *testing.T) {
	for _, l := range rights() {
		for _, n := range named() {
			i := slices.IndexFunc(l, func(m api.Mark) bool { return m.Name == n })
			rest, where := l, 0
			if i >= 0 {
				rest, where = slices.Concat(l[:i], l[i+1:]), l[i].At
			}
			if at, ok := mark.Get(l, n); at != where || ok != (i >= 0) {
				t.Errorf("Get(%v, %d): %d, %v", l, n, at, ok)
			}
			if got := mark.Drop(l, n); !slices.Equal(got, rest) {
				t.Errorf("Drop(%v, %d): %v", l, n, got)
			}
			want, err := list(nil), api.ErrName
			if mark.Name(n) {
				want, err = append(want, rest...), api.OK
				want = append(want, api.Mark{Name: n, At: 77})
				slices.SortFunc(want, func(a, b api.Mark) int { return a.Name - b.Name })
			}
			if got, e := mark.Set(l, n, 77); !slices.Equal(got, want) || e != err {
				t.Errorf("Set(%v, %d): %v, error %d", l, n, got, e)
			}
		}
	}
}

// P10.2: what Set refuses, and which error comes first.
func TestSetErrors(t *testing.T) {
	refuse := func(l list, name, at int, want api.Errno) {
		if got, e := mark.Set(l, name, at); len(got) != 0 || e != want {
			t.Errorf("%v, %d at %d: %v, error %d, not %d", l, name, at, got, e, want)
		}
	}
	for _, l := range rights() {
		for _, name := range notNames() {
			refuse(l, name, 0, api.ErrName)
			refuse(l, name, 4, api.ErrName)
			refuse(l, name, far, api.ErrName)
			for _, at := range notAts() {
				refuse(l, name, at, api.ErrArg)
				refuse(l, 'a', at, api.ErrArg)
				refuse(l, 'z', at, api.ErrArg)
			}
		}
	}
	for _, l := range wrongs() {
		for _, name := range []int{'a', 'm', 'z', 'a' - 1, 'z' + 1, 0} {
			for _, at := range []int{0, 4, far, -1, far + 1} {
				refuse(l, name, at, api.ErrArg)
			}
		}
	}
}

// P10.2, P10.3: of marks that may not be none is told.
func TestWrongMarks(t *testing.T) {
	for _, l := range wrongs() {
		names := append(notNames(), 'a', 'b', 'c', 'm', 'z')
		for _, m := range l {
			names = append(names, m.Name)
		}
		for _, n := range names {
			if at, ok := mark.Get(l, n); at != 0 || ok {
				t.Errorf("Get(%v, %d): %d, %v", l, n, at, ok)
			}
			if got := mark.Drop(l, n); len(got) != 0 {
				t.Errorf("Drop(%v, %d): %v", l, n, got)
			}
		}
		// Also where they might be behind the changes.
		for _, c := range []changes{nil, {}, {{}}, {{New: "abc"}}, {{At: -far, Old: "a"}, {At: 2, New: "x"}}} {
			if got := mark.Move(l, c...); len(got) != 0 {
				t.Errorf("Move(%v, %+v): %v", l, c, got)
			}
		}
	}
}

// P10.3: where marks go, by hand, the first one from 0 on, each of the others one behind it: ahead of a change, within its Old, at its Old's end, and behind it.
func TestMove(t *testing.T) {
	for _, x := range []struct {
		c  changes
		to []int
	}{
		{nil, []int{0, 1, 2, 3}},
		{changes{}, []int{0, 1}},
		{changes{{}}, []int{0, 1, 2}},
		{changes{{At: 2, New: "abc"}}, []int{0, 1, 5, 6, 7}},
		{changes{{At: 1, Old: "bcd"}}, []int{0, 1, 1, 1, 1, 2, 3}},
		{changes{{At: 1, Old: "bcd", New: "x"}}, []int{0, 1, 1, 1, 2, 3, 4}},
		{changes{{At: 1, Old: "bc", New: "wxyz"}}, []int{0, 1, 1, 5, 6}},
		{changes{{At: 1, Old: "bc", New: "bc"}}, []int{0, 1, 1, 3, 4}},
		{changes{{Old: "abc"}}, []int{0, 0, 0, 0, 1, 2}},
		{changes{{New: "\u20ac"}}, []int{3, 4, 5}},
		{changes{{At: 9, New: "abc"}}, []int{0, 1, 2, 3}},
		// Several, one made behind the other: not at once, nor the last one first.
		{changes{{At: 2, New: "abc"}, {Old: "xy"}}, []int{0, 0, 3, 4}},
		{changes{{Old: "xy"}, {At: 2, New: "abc"}}, []int{0, 0, 0, 1, 5, 6}},
		{changes{{At: 1, New: "ab"}, {At: 1, Old: "ab"}}, []int{0, 1, 2, 3}},
		{changes{{At: 1, Old: "bc"}, {At: 1, New: "bc"}}, []int{0, 3, 3, 3, 4}},
		{changes{{New: "a"}, {New: "b"}, {At: 1, New: "c"}}, []int{3, 4}},
		{changes{{At: 3, Old: "d", New: "xyz"}, {}, {At: 1, Old: "b"}, {At: 4, New: "!"}}, []int{0, 1, 1, 2, 6, 7}},
		// It matters not what the bytes are.
		{changes{{At: 1, Old: "\xff", New: "\x80\x80"}}, []int{0, 1, 3, 4}},
	} {
		l := list{}
		want := list{}
		for i, to := range x.to {
			l = append(l, api.Mark{Name: 'c' + i, At: i})
			want = append(want, api.Mark{Name: 'c' + i, At: to})
		}
		if got := mark.Move(l, x.c...); !slices.Equal(got, want) {
			t.Errorf("%+v: %v, not %v", x.c, got, want)
		}
	}
}

// P10.3: marks that would go below 0, or above 2^40: there alone they end at the bound, also where they were beyond it between two changes.
func TestMoveBounds(t *testing.T) {
	for _, x := range []struct {
		l    list
		c    changes
		want list
	}{
		{marks(far, far-1, 0), changes{{New: "a"}}, marks(far, far, 1)},
		{marks(far, far-1, far-2, far-3), changes{{At: 1, New: "ab"}}, marks(far, far, far, far-1)},
		{marks(far, far-1), changes{{At: far, New: "abc"}}, marks(far, far-1)},
		{marks(far, far-1), changes{{At: far - 1, Old: "a"}}, marks(far-1, far-1)},
		{marks(far, far-1, 0), changes{{At: 0, Old: "a"}}, marks(far-1, far-2, 0)},
		{marks(0, 1, 5), changes{{At: -1, Old: "abc"}}, marks(0, 0, 2)},
		{marks(0, 1, 2, 3), changes{{At: -2, Old: "abcd", New: "x"}}, marks(0, 0, 0, 0)},
		{marks(0, 1, 2, 3), changes{{At: -3, Old: "ab"}}, marks(0, 0, 0, 1)},
		{marks(0, 1), changes{{At: -3, New: "ab"}}, marks(2, 3)},
		{marks(0, far), changes{{At: -far, Old: "a"}}, marks(0, far-1)},
		{marks(0, far), changes{{At: -far, New: "a"}}, marks(1, far)},
		// Above the bound, and back.
		{marks(far, far-1), changes{{New: "abc"}, {Old: "abc"}}, marks(far, far-1)},
		{marks(far, far-1, far-2), changes{{New: "abc"}, {Old: "ab"}}, marks(far, far, far-1)},
		// Below 0, and back.
		{marks(0, 1, 5), changes{{At: -1, Old: "abcd"}, {At: -1, New: "xyz"}}, marks(2, 2, 4)},
		{marks(0, 3, 5), changes{{At: -3, Old: "abcdef"}, {At: -5, New: "xyzw"}}, marks(1, 1, 3)},
		{marks(0, 2), changes{{At: -9, Old: "abcdefgh"}, {At: -5, New: "x"}}, marks(0, 0)},
	} {
		if got := mark.Move(x.l, x.c...); !slices.Equal(got, x.want) {
			t.Errorf("%v, %+v: %v, not %v", x.l, x.c, got, x.want)
		}
	}
}

// some is a change of up to n bytes for up to n others, somewhere near 0 or 2^40.
func some(r *rand.Rand, n int) api.Change {
	at := r.Intn(40) - 10
	if r.Intn(3) == 0 {
		at += far - 20
	}
	return api.Change{At: min(at, far), Old: strings.Repeat("o", r.Intn(n+1)), New: strings.Repeat("n", r.Intn(n+1))}
}

// P10.3, P10.4: many marks and many changes: names stay, each mark goes on its own, as layer 8's Shift leads it.
func TestMoveAsShift(t *testing.T) {
	r := rand.New(rand.NewSource(103))
	below, above := 0, 0
	for range 5000 {
		l := list{}
		for _, c := range letters {
			if r.Intn(3) > 0 {
				l = append(l, api.Mark{Name: int(c), At: min(r.Intn(40)+r.Intn(2)*(far-20), far)})
			}
		}
		c := changes{}
		for range r.Intn(5) {
			c = append(c, some(r, 9))
		}
		got := mark.Move(l, c...)
		if len(got) != len(l) || !mark.Right(got) {
			t.Fatalf("%v, %+v: %v", l, c, got)
		}
		for i, m := range l {
			want := change.Shift(m.At, c...)
			if want < 0 {
				want = 0
				below++
			}
			if want > far {
				want = far
				above++
			}
			if got[i] != (api.Mark{Name: m.Name, At: want}) {
				t.Fatalf("%v, %+v: %v, not at %d", m, c, got[i], want)
			}
		}
	}
	if below < 500 || above < 500 {
		t.Errorf("%d below, %d above", below, above)
	}
}

// P10.4: whatever is set, taken away and moved, one behind the other: what is set is got, others stay, and all answers may be.
func TestAlike(t *testing.T) {
	r := rand.New(rand.NewSource(104))
	for range 300 {
		l := list(nil)
		kept := map[int]int{}
		for step := range 80 {
			name := 'a' + r.Intn(26)
			switch r.Intn(6) {
			case 0:
				l = mark.Drop(l, name)
				delete(kept, name)
			case 1:
				c := some(r, 5)
				l = mark.Move(l, c)
				for n, at := range kept {
					kept[n] = min(max(change.Shift(at, c), 0), far)
				}
			default:
				at := []int{0, 1, r.Intn(40), r.Intn(far), far - r.Intn(20), far}[r.Intn(6)]
				set, e := mark.Set(l, name, at)
				if e != api.OK {
					t.Fatalf("%v, %c at %d: error %d", l, name, at, e)
				}
				l = set
				kept[name] = at
			}
			if !right(l) || !mark.Right(l) || len(l) != len(kept) {
				t.Fatalf("step %d: %v, not %v", step, l, kept)
			}
			for _, c := range letters {
				want, there := kept[int(c)]
				if at, ok := mark.Get(l, int(c)); at != want || ok != there {
					t.Fatalf("step %d: %v, %c: %d, %v", step, l, c, at, ok)
				}
			}
		}
	}
}

// P10.4: in whatever order they are set, the marks are the same; set once more, or taken away and set again, as well.
func TestOrder(t *testing.T) {
	r := rand.New(rand.NewSource(1042))
	for range 200 {
		l := list(nil)
		for _, i := range r.Perm(26) {
			set, e := mark.Set(l, all()[i].Name, all()[i].At)
			if e != api.OK {
				t.Fatalf("%v: error %d", all()[i], e)
			}
			l = set
		}
		if !slices.Equal(l, all()) {
			t.Fatalf("%v", l)
		}
	}
	for _, m := range all() {
		if l, e := mark.Set(all(), m.Name, m.At); !slices.Equal(l, all()) || e != api.OK {
			t.Errorf("%v: %v, error %d", m, l, e)
		}
		l, e := mark.Set(mark.Drop(all(), m.Name), m.Name, m.At)
		if !slices.Equal(l, all()) || e != api.OK {
			t.Errorf("%v: %v, error %d", m, l, e)
		}
	}
}

// What is handed in stays as it was, and so does what stands behind its end.
func TestListsStay(t *testing.T) {
	c := changes{{At: 1, Old: "bc", New: "x"}, {New: "abc"}, {At: 2, Old: "behind"}}
	for n := range 27 {
		l := all()
		for name := int('a' - 1); name <= 'z'+1; name++ {
			mark.Right(l[:n])
			mark.Set(l[:n], name, 99)
			mark.Get(l[:n], name)
			mark.Drop(l[:n], name)
			for k := range len(c) + 1 {
				mark.Move(l[:n], c[:k]...)
			}
		}
		if !slices.Equal(l, all()) {
			t.Errorf("the first %d: %v", n, l)
		}
	}
	if !slices.Equal(c, changes{{At: 1, Old: "bc", New: "x"}, {New: "abc"}, {At: 2, Old: "behind"}}) {
		t.Errorf("%+v", c)
	}
	for _, l := range wrongs() {
		was := slices.Clone(l)
		mark.Set(l, 'a', 1)
		mark.Drop(l, 'a')
		mark.Move(l, c...)
		if !slices.Equal(l, was) {
			t.Errorf("%v, not %v", l, was)
		}
	}
}

// An answer is new memory, also where it is an argument as it came: what is written into it, up to all its room, is not to be seen in what was handed in.
func TestAnswersAreNew(t *testing.T) {
	for n := range 27 {
		l := all()
		spoil := func(answer list) {
			answer = answer[:cap(answer)]
			for i := range answer {
				answer[i] = api.Mark{Name: -1, At: -1}
			}
			if !slices.Equal(l, all()) {
				t.Fatalf("the first %d: %v", n, l)
			}
		}
		for name := int('a' - 1); name <= 'z'+1; name++ {
			set, _ := mark.Set(l[:n], name, 99)
			spoil(set)
			spoil(mark.Drop(l[:n], name))
		}
		spoil(mark.Move(l[:n]))
		spoil(mark.Move(l[:n], api.Change{}))
		spoil(mark.Move(l[:n], api.Change{New: "ab"}, api.Change{Old: "a"}))
	}
}

// What is told of a part of a list hangs on nothing that stands behind its end.
func TestPartOfList(t *testing.T) {
	l := append(all(), api.Mark{Name: 'A', At: -1})
	for n := range 27 {
		if !mark.Right(l[:n]) {
			t.Errorf("the first %d may not be", n)
		}
		for i, c := range letters {
			if at, ok := mark.Get(l[:n], int(c)); ok != (i < n) || ok && at != l[i].At {
				t.Errorf("the first %d, %c: %d, %v", n, c, at, ok)
			}
		}
	}
	if mark.Right(l) {
		t.Error("all may be")
	}
}

// Whatever is handed in, each call ends and none panics; what Move answers may be all the same.
func TestAnything(t *testing.T) {
	numbers := []int{math.MinInt, math.MinInt + 1, -far, -1, 0, 1, 'a', 'm', 'z', 255, api.MaxNum, far, far + 1, math.MaxInt - 1, math.MaxInt}
	texts := []string{"", "a", "\xff", strings.Repeat("b", api.MaxText+1)}
	lists := append(rights()[:12], wrongs()[:20]...)
	for _, n := range numbers {
		for _, at := range numbers {
			lists = append(lists, list{{Name: n, At: at}}, list{{Name: 'c', At: at}, {Name: n, At: 0}})
		}
	}
	for _, l := range lists {
		for _, n := range numbers {
			for _, at := range numbers {
				if set, e := mark.Set(l, n, at); !mark.Right(set) || (e == api.OK) != (len(set) > 0) {
					t.Errorf("Set(%v, %d, %d): %v, error %d", l, n, at, set, e)
				}
			}
			mark.Get(l, n)
			if got := mark.Drop(l, n); !mark.Right(got) {
				t.Errorf("Drop(%v, %d): %v", l, n, got)
			}
			for _, s := range texts {
				c := api.Change{At: n, Old: s, New: texts[1]}
				if got := mark.Move(l, c, change.Turn(c), api.Change{New: s}); !mark.Right(got) {
					t.Errorf("Move(%v, At %d): %v", l, n, got)
				}
			}
		}
	}
}
