package tree_test

import (
	"math"
	"math/rand"
	"slices"
	"strings"
	"testing"
	"unicode/utf8"
	"unsafe"

	"calamus/api"
	"calamus/change"
	"calamus/tree"
)

// nodes and list are what a tree has, and numbers of them.
type (
	nodes = []api.Node
	list  = []int
)

// root is node 0 of a tree of it alone.
func root() api.Node {
	return api.Node{Up: -1, Next: -1}
}

// made is a tree whose nodes have these Ups, from node 1 on, each of which has the last one of its kids as its Next.
func made(cur int, ups ...int) api.Tree {
	t := api.Tree{Nodes: nodes{root()}, Cur: cur}
	for i, up := range ups {
		t.Nodes = append(t.Nodes, api.Node{Up: up, Next: -1})
		t.Nodes[up].Next = i + 1
	}
	return t
}

// bush is a tree of eleven nodes:
//
//	0 - 1 - 2 - 5 - 6
//	        |   + - 7
//	        + - 3 - 4
//	        + - 8
//	0 - 9 - 10
func bush(cur int) api.Tree {
	t := made(cur, 0, 1, 2, 3, 2, 5, 5, 2, 0, 9)
	for k := 1; k < len(t.Nodes); k++ {
		t.Nodes[k].Before, t.Nodes[k].After = k, 2*k
		t.Nodes[k].Change = api.Change{At: k, Old: strings.Repeat("o", k), New: strings.Repeat("n", k%3)}
	}
	return t
}

// chain is a tree of n nodes, each of which is the kid of the one ahead of it.
func chain(n, cur int) api.Tree {
	ups := list{}
	for k := range n - 1 {
		ups = append(ups, k)
	}
	return made(cur, ups...)
}

// fan is a tree of n nodes, each of which but the root is a kid of the root.
func fan(n, cur int) api.Tree {
	return made(cur, make(list, n-1)...)
}

// cloned is a tree in memory of its own.
func cloned(t api.Tree) api.Tree {
	return api.Tree{Nodes: slices.Clone(t.Nodes), Cur: t.Cur}
}

// with is a tree whose node k is another one.
func with(t api.Tree, k int, set func(n *api.Node)) api.Tree {
	t = cloned(t)
	set(&t.Nodes[k])
	return t
}

// same holds trees against each other, field by field.
func same(a, b api.Tree) bool {
	if a.Cur != b.Cur || len(a.Nodes) != len(b.Nodes) {
		return false
	}
	for k := range a.Nodes {
		if a.Nodes[k] != b.Nodes[k] {
			return false
		}
	}
	return true
}

// zero tells whether a tree is the zero tree.
func zero(t api.Tree) bool {
	return len(t.Nodes) == 0 && t.Cur == 0
}

// kids are the numbers of those nodes that have k as their Up, but for node 0.
func kids(t api.Tree, k int) list {
	l := list{}
	for i := 1; i < len(t.Nodes); i++ {
		if t.Nodes[i].Up == k {
			l = append(l, i)
		}
	}
	return l
}

// right is the chapter's words.
func right(t api.Tree) bool {
	n := len(t.Nodes)
	if n < 1 || n > 1024 || t.Cur < 0 || t.Cur >= n {
		return false
	}
	for k, x := range t.Nodes {
		if k == 0 && (x.Up != -1 || x.Before != 0 || x.After != 0 || x.Change != (api.Change{})) {
			return false
		}
		if k > 0 && (x.Up < 0 || x.Up >= k || x.Before < 0 || x.After < 0) {
			return false
		}
		if l := kids(t, k); len(l) == 0 && x.Next != -1 || len(l) > 0 && !slices.Contains(l, x.Next) {
			return false
		}
	}
	return true
}

// wayUp is a node, its Up, and so on, to the root.
func wayUp(t api.Tree, k int) list {
	if k == 0 {
		return list{0}
	}
	return append(list{k}, wayUp(t, t.Nodes[k].Up)...)
}

// less is a list without what stands in another one.
func less(l, without list) list {
	return slices.DeleteFunc(slices.Clone(l), func(k int) bool { return slices.Contains(without, k) })
}

// rights are trees that may be: the root alone, chains, fans, bushes, with each node as Cur.
func rights() []api.Tree {
	l := []api.Tree{
		chain(1024, 0), chain(1024, 512), chain(1024, 1023), chain(1023, 1022),
		fan(1024, 0), fan(1024, 1), fan(1024, 1023), fan(1023, 7),
	}
	for n := 1; n < 6; n++ {
		for cur := range n {
			l = append(l, chain(n, cur), fan(n, cur))
		}
	}
	for cur := range 11 {
		l = append(l, bush(cur))
		for k := 1; k < 11; k++ {
			// Any kid may be the next one, also one that does not lead to Cur.
			l = append(l, with(bush(cur), bush(cur).Nodes[k].Up, func(n *api.Node) { n.Next = k }))
		}
	}
	// Greatest numbers, and changes that do not fit.
	l = append(l, with(bush(3), 4, func(n *api.Node) { n.Before, n.After = math.MaxInt, math.MaxInt }))
	l = append(l, with(bush(3), 4, func(n *api.Node) { n.Change = api.Change{At: -1, Old: "\xff", New: "\x80"} }))
	l = append(l, with(bush(3), 4, func(n *api.Node) { n.Change = api.Change{At: math.MinInt} }))
	l = append(l, with(bush(3), 4, func(n *api.Node) { n.Change = api.Change{New: strings.Repeat("a", api.MaxText+1)} }))
	return l
}

// wrongs are trees that may not be, each but for one thing.
func wrongs() []api.Tree {
	l := []api.Tree{
		{}, {Nodes: nodes{}}, {Cur: 1}, {Cur: -1},
		{Nodes: nodes{{}}},
		{Nodes: nodes{{Up: -1}}},
		{Nodes: nodes{{Next: -1}}},
		chain(1025, 0), chain(1025, 1024), fan(1025, 0), fan(3000, 1),
		// A node that is its own Up, or of which the Up is behind it.
		{Nodes: nodes{root(), {Up: 1, Next: 1}}},
		{Nodes: nodes{{Up: -1, Next: 2}, {Up: 2, Next: -1}, {Up: 0, Next: 1}}},
		{Nodes: nodes{root(), {Up: 2, Next: 2}, {Up: 1, Next: 1}}, Cur: 1},
		// More than one root.
		{Nodes: nodes{root(), root()}},
	}
	for _, cur := range []int{-1, 11, 12, math.MinInt, math.MaxInt, 1 << 32} {
		l = append(l, bush(cur))
	}
	for _, set := range []func(n *api.Node){
		func(n *api.Node) { n.Up = 0 }, func(n *api.Node) { n.Up = 1 }, func(n *api.Node) { n.Up = -2 },
		func(n *api.Node) { n.Before = 1 }, func(n *api.Node) { n.Before = -1 }, func(n *api.Node) { n.After = 1 }, func(n *api.Node) { n.After = -1 },
		func(n *api.Node) { n.Change.At = 1 }, func(n *api.Node) { n.Change.Old = "a" }, func(n *api.Node) { n.Change.New = "a" },
	} {
		l = append(l, with(bush(3), 0, set), with(chain(1, 0), 0, set))
	}
	for k := 1; k < 11; k++ {
		for _, up := range []int{-1, -2, k, k + 1, 11, math.MinInt, math.MaxInt} {
			l = append(l, with(bush(3), k, func(n *api.Node) { n.Up = up }))
		}
		for _, p := range []int{-1, -2, math.MinInt} {
			l = append(l, with(bush(3), k, func(n *api.Node) { n.Before = p }), with(bush(3), k, func(n *api.Node) { n.After = p }))
		}
	}
	for k := range 11 {
		for _, next := range []int{-2, -1, 0, 1, 2, 3, 4, 5, 6, 7, 8, 9, 10, 11, 12, math.MinInt, math.MaxInt} {
			own := kids(bush(3), k)
			if !slices.Contains(own, next) && (next != -1 || len(own) > 0) {
				l = append(l, with(bush(3), k, func(n *api.Node) { n.Next = next }))
			}
		}
	}
	return l
}

// P11.1: a new tree is the root alone, each time in memory of its own.
func TestNew(t *testing.T) {
	x := tree.New()
	if len(x.Nodes) != 1 || x.Nodes[0] != (api.Node{Up: -1, Next: -1, Before: 0, After: 0, Change: api.Change{At: 0, Old: "", New: ""}}) || x.Cur != 0 || !tree.Right(x) {
		t.Errorf("%+v", x)
	}
	x.Nodes[0].Next = 7
	x.Cur = 9
	if y := tree.New(); !same(y, made(0)) {
		t.Errorf("%+v", y)
	}
}

// P11.1: trees that may be, and trees that may not be, by hand.
func TestRight(t *testing.T) {
	for _, x := range rights() {
		if !tree.Right(x) {
			t.Errorf("%+v", x)
		}
	}
	for i, x := range wrongs() {
		if tree.Right(x) {
			t.Errorf("%d may be: %+v", i, x)
		}
	}
}

// P11.1: all trees of up to four nodes, as their Ups and Nexts go, against the chapter's words.
func TestRightOfAll(t *testing.T) {
	counts := list{}
	for n := 1; n < 5; n++ {
		x := api.Tree{Nodes: make(nodes, n)}
		x.Nodes[0].Up = -1
		may := 0
		var fill func(k int)
		fill = func(k int) {
			if k == n {
				for x.Cur = -1; x.Cur <= n; x.Cur++ {
					if tree.Right(x) != right(x) {
						t.Errorf("%+v: %v", x, !right(x))
					}
					if right(x) {
						may++
					}
				}
				return
			}
			for next := -1; next <= n; next++ {
				x.Nodes[k].Next = next
				if k == 0 {
					fill(1)
					continue
				}
				for up := -1; up <= k; up++ {
					x.Nodes[k].Up = up
					fill(k + 1)
				}
			}
		}
		fill(0)
		counts = append(counts, may)
	}
	// Of four nodes: a chain, 1; two kids of node 1, 2; two of the root, one of which has a kid, 3 times 2; three of the root, 3.
	if !slices.Equal(counts, list{1, 2, 3 * 3, 4 * 12}) {
		t.Error(counts)
	}
}

// P11.1: two trees are the same, if nothing tells them apart, also if they may not be.
func TestSame(t *testing.T) {
	all := append(rights(), wrongs()...)
	for i, x := range all {
		if !tree.Same(x, x) || !tree.Same(x, cloned(x)) || !tree.Same(cloned(x), x) {
			t.Errorf("%d: not the same as itself", i)
		}
		for j, y := range all {
			if tree.Same(x, y) != same(x, y) {
				t.Errorf("%d, %d: %v", i, j, !same(x, y))
			}
		}
	}
	if !tree.Same(api.Tree{}, api.Tree{Nodes: nodes{}}) || !tree.Same(api.Tree{Nodes: nodes{}, Cur: 3}, api.Tree{Cur: 3}) {
		t.Error("no nodes")
	}
	other := func(a, b api.Tree) {
		t.Helper()
		if tree.Same(a, b) || tree.Same(b, a) {
			t.Errorf("%+v and %+v", a, b)
		}
	}
	for cur := range 11 {
		other(bush(cur), bush(cur+1))
		other(bush(cur), api.Tree{Nodes: bush(cur).Nodes[:10], Cur: cur})
		other(bush(cur), api.Tree{Nodes: append(bush(cur).Nodes, api.Node{}), Cur: cur})
		for _, set := range []func(n *api.Node){
			func(n *api.Node) { n.Up++ }, func(n *api.Node) { n.Next-- }, func(n *api.Node) { n.Before++ }, func(n *api.Node) { n.After-- },
			func(n *api.Node) { n.Change.At++ }, func(n *api.Node) { n.Change.Old += "x" }, func(n *api.Node) { n.Change.New += "\xff" },
		} {
			for k := range 11 {
				other(bush(cur), with(bush(cur), k, set))
			}
		}
	}
	other(api.Tree{}, tree.New())
	other(api.Tree{}, api.Tree{Cur: 1})
}

// P11.2: a node more, by hand: below the root, below the last one, and beside another one.
func TestAdd(t *testing.T) {
	c := api.Change{At: 3, Old: "ab", New: "\u20ac"}
	for _, x := range []struct {
		t    api.Tree
		want nodes
	}{
		{tree.New(), nodes{{Up: -1, Next: 1}, {Up: 0, Next: -1, Before: 5, After: 9, Change: c}}},
		{made(0, 0), nodes{{Up: -1, Next: 2}, {Up: 0, Next: -1}, {Up: 0, Next: -1, Before: 5, After: 9, Change: c}}},
		{made(1, 0), nodes{{Up: -1, Next: 1}, {Up: 0, Next: 2}, {Up: 1, Next: -1, Before: 5, After: 9, Change: c}}},
		{made(1, 0, 1, 0), nodes{{Up: -1, Next: 3}, {Up: 0, Next: 4}, {Up: 1, Next: -1}, {Up: 0, Next: -1}, {Up: 1, Next: -1, Before: 5, After: 9, Change: c}}},
		{made(2, 0, 1, 0), nodes{{Up: -1, Next: 3}, {Up: 0, Next: 2}, {Up: 1, Next: 4}, {Up: 0, Next: -1}, {Up: 2, Next: -1, Before: 5, After: 9, Change: c}}},
	} {
		got, e := tree.Add(x.t, c, 5, 9)
		if e != api.OK || !same(got, api.Tree{Nodes: x.want, Cur: len(x.want) - 1}) {
			t.Errorf("%+v: %+v, error %d", x.t, got, e)
		}
	}
}

// P11.2: a node more in any tree: it is the last one, all others stay but the Next of Cur. Its change needs not fit, and where the cursor was may be any number from 0 on.
func TestAddToAny(t *testing.T) {
	changes := []api.Change{
		{}, {At: 1, Old: "a", New: "b"}, {At: -5, Old: "\xff"}, {At: math.MaxInt, New: "\x80"}, {At: math.MinInt},
		{New: strings.Repeat("n", api.MaxText+1), Old: strings.Repeat("o", 2*api.MaxText)},
	}
	ats := []int{0, 1, 4096, 4097, api.MaxNum, api.MaxNum + 1, 1<<40 + 1, math.MaxInt}
	for i, x := range rights() {
		if len(x.Nodes) == api.MaxNodes {
			continue
		}
		c, before, after := changes[i%len(changes)], ats[i%len(ats)], ats[(i/3)%len(ats)]
		got, e := tree.Add(x, c, before, after)
		want := cloned(x)
		want.Nodes = append(want.Nodes, api.Node{Up: x.Cur, Next: -1, Before: before, After: after, Change: c})
		want.Nodes[x.Cur].Next = len(x.Nodes)
		want.Cur = len(x.Nodes)
		if e != api.OK || !same(got, want) || !tree.Right(got) {
			t.Errorf("%+v: %+v, error %d", x, got, e)
		}
	}
}

// P11.2: what Add refuses, and which error comes first.
func TestAddErrors(t *testing.T) {
	refuse := func(x api.Tree, before, after int, want api.Errno) {
		t.Helper()
		if got, e := tree.Add(x, api.Change{New: "a"}, before, after); e != want || !zero(got) {
			t.Errorf("%d nodes, %d, %d: %+v, error %d, not %d", len(x.Nodes), before, after, got, e, want)
		}
	}
	for _, x := range wrongs() {
		refuse(x, 0, 0, api.ErrArg)
		refuse(x, -1, 0, api.ErrArg)
	}
	for _, x := range rights() {
		for _, p := range []int{-1, -2, math.MinInt} {
			refuse(x, p, 0, api.ErrArg)
			refuse(x, 0, p, api.ErrArg)
			refuse(x, p, p, api.ErrArg)
			refuse(x, p, math.MaxInt, api.ErrArg)
		}
		if len(x.Nodes) == 1024 {
			refuse(x, 0, 0, api.ErrRoom)
			refuse(x, math.MaxInt, 3, api.ErrRoom)
		}
	}
}

// P11.2: there is room for 1024 nodes, and no more.
func TestFull(t *testing.T) {
	x := tree.New()
	for k := 1; k < 1024; k++ {
		y, e := tree.Add(x, api.Change{At: k}, k, k)
		if e != api.OK || len(y.Nodes) != k+1 || y.Cur != k {
			t.Fatalf("node %d: error %d", k, e)
		}
		x = y
	}
	if y, e := tree.Add(x, api.Change{}, 0, 0); e != api.ErrRoom || !zero(y) || !tree.Right(x) {
		t.Errorf("%+v, error %d", y, e)
	}
	// What is undone makes no room.
	x, _, _ = tree.Undo(x)
	if y, e := tree.Add(x, api.Change{}, 0, 0); e != api.ErrRoom || !zero(y) {
		t.Errorf("%+v, error %d", y, e)
	}
}

// P11.3: back and forth in a bush, by hand; but for Cur nothing becomes another.
func TestUndoRedo(t *testing.T) {
	for _, x := range []struct {
		cur      int
		up, next int
	}{
		{0, -1, 9}, {1, 0, 2}, {2, 1, 8}, {3, 2, 4}, {4, 3, -1}, {5, 2, 7}, {6, 5, -1}, {7, 5, -1}, {8, 2, -1}, {9, 0, 10}, {10, 9, -1},
	} {
		up, undone, ok := tree.Undo(bush(x.cur))
		want, number := bush(x.up), x.cur
		if x.up < 0 {
			want, number = bush(x.cur), 0
		}
		if !same(up, want) || undone != number || ok != (x.up >= 0) {
			t.Errorf("Undo of %d: %d, %d, %v", x.cur, up.Cur, undone, ok)
		}
		next, done, ok := tree.Redo(bush(x.cur))
		want, number = bush(x.next), x.next
		if x.next < 0 {
			want, number = bush(x.cur), 0
		}
		if !same(next, want) || done != number || ok != (x.next >= 0) {
			t.Errorf("Redo of %d: %d, %d, %v", x.cur, next.Cur, done, ok)
		}
	}
	// Done again is what was chosen, also where another one was undone.
	x := with(bush(5), 2, func(n *api.Node) { n.Next = 3 })
	x, n, ok := tree.Undo(x)
	if x.Cur != 2 || n != 5 || !ok || x.Nodes[2].Next != 3 {
		t.Errorf("%+v, %d, %v", x, n, ok)
	}
	if x, n, ok = tree.Redo(x); x.Cur != 3 || n != 3 || !ok {
		t.Errorf("%+v, %d, %v", x, n, ok)
	}
}

// P11.3: back to the root, and forth to the end, of a chain of all nodes there may be.
func TestUndoRedoAll(t *testing.T) {
	x := chain(1024, 1023)
	for k := 1023; k > 0; k-- {
		y, n, ok := tree.Undo(x)
		if !ok || n != k || y.Cur != k-1 {
			t.Fatalf("Undo of %d: %d, %d, %v", k, y.Cur, n, ok)
		}
		x = y
	}
	if y, n, ok := tree.Undo(x); ok || n != 0 || !same(x, y) || !same(x, chain(1024, 0)) {
		t.Errorf("Undo of the root: %d, %v", n, ok)
	}
	for k := 1; k < 1024; k++ {
		y, n, ok := tree.Redo(x)
		if !ok || n != k || y.Cur != k {
			t.Fatalf("Redo to %d: %d, %d, %v", k, y.Cur, n, ok)
		}
		x = y
	}
	if y, n, ok := tree.Redo(x); ok || n != 0 || !same(x, y) || !same(x, chain(1024, 1023)) {
		t.Errorf("Redo of the last one: %d, %v", n, ok)
	}
}

// P11.3 to P11.6: of trees that may not be nothing is told.
func TestWrongTrees(t *testing.T) {
	for i, x := range wrongs() {
		if y, n, ok := tree.Undo(x); !zero(y) || n != 0 || ok {
			t.Errorf("Undo of %d: %+v, %d, %v", i, y, n, ok)
		}
		if y, n, ok := tree.Redo(x); !zero(y) || n != 0 || ok {
			t.Errorf("Redo of %d: %+v, %d, %v", i, y, n, ok)
		}
		for _, k := range []int{-1, 0, 1, 2, 3, 10, 11, 1023, 1024, 1025, math.MinInt, math.MaxInt} {
			if l := tree.Kids(x, k); len(l) != 0 {
				t.Errorf("Kids of %d, %d: %v", i, k, l)
			}
			// Also of what is no node ErrArg comes first.
			if y, e := tree.Choose(x, k); !zero(y) || e != api.ErrArg {
				t.Errorf("Choose of %d, %d: %+v, error %d", i, k, y, e)
			}
			if back, forth, e := tree.Path(x, k); len(back) != 0 || len(forth) != 0 || e != api.ErrArg {
				t.Errorf("Path of %d, %d: %v, %v, error %d", i, k, back, forth, e)
			}
			if y, e := tree.To(x, k); !zero(y) || e != api.ErrArg {
				t.Errorf("To of %d, %d: %+v, error %d", i, k, y, e)
			}
		}
		for _, s := range []string{"", "abc", "\xff"} {
			if l, e := tree.Texts(x, s); len(l) != 0 || e != api.ErrArg {
				t.Errorf("Texts of %d: %q, error %d", i, l, e)
			}
		}
	}
}

// notNodes are numbers that are none of a node of a tree of n nodes.
func notNodes(n int) list {
	return list{-1, -2, n, n + 1, 1024, 1025, 1 << 32, math.MinInt, math.MaxInt}
}

// P11.4: kids, by hand, and of all trees there are; what is no node has none, nor has the Up of the root.
func TestKids(t *testing.T) {
	want := []list{{1, 9}, {2}, {3, 5, 8}, {4}, {}, {6, 7}, {}, {}, {}, {10}, {}}
	for cur := range 11 {
		for k, l := range want {
			if got := tree.Kids(bush(cur), k); !slices.Equal(got, l) {
				t.Errorf("%d at %d: %v", k, cur, got)
			}
		}
	}
	for _, x := range rights() {
		for k := range x.Nodes[:min(len(x.Nodes), 20)] {
			if got := tree.Kids(x, k); !slices.Equal(got, kids(x, k)) {
				t.Errorf("%d of %d nodes: %v", k, len(x.Nodes), got)
			}
		}
		for _, k := range notNodes(len(x.Nodes)) {
			if got := tree.Kids(x, k); len(got) != 0 {
				t.Errorf("%d of %d nodes: %v", k, len(x.Nodes), got)
			}
		}
	}
	if l := tree.Kids(fan(1024, 5), 0); len(l) != 1023 || l[0] != 1 || l[1022] != 1023 || !slices.IsSorted(l) {
		t.Errorf("%v", l)
	}
}

// P11.4: what is chosen is the Next of its Up, and nothing else becomes another; the root and what is no node can't be chosen.
func TestChoose(t *testing.T) {
	for _, x := range rights() {
		some := list{}
		for k := 1; k < min(len(x.Nodes), 12); k++ {
			some = append(some, k)
		}
		if len(x.Nodes) > 12 {
			some = append(some, len(x.Nodes)-1)
		}
		for _, k := range some {
			got, e := tree.Choose(x, k)
			want := with(x, x.Nodes[k].Up, func(n *api.Node) { n.Next = k })
			if e != api.OK || !same(got, want) || !tree.Right(got) {
				t.Errorf("%d of %d nodes: %+v, error %d", k, len(x.Nodes), got, e)
			}
		}
		for _, k := range append(notNodes(len(x.Nodes)), 0) {
			if got, e := tree.Choose(x, k); e != api.ErrNone || !zero(got) {
				t.Errorf("%d of %d nodes: %+v, error %d", k, len(x.Nodes), got, e)
			}
		}
	}
	// To a fork, where the one that was undone is not the one that is done again.
	x, _ := tree.Choose(bush(2), 3)
	if y, n, ok := tree.Redo(x); y.Cur != 3 || n != 3 || !ok {
		t.Errorf("%+v, %d, %v", y, n, ok)
	}
}

// P11.5: ways in a bush, by hand: up alone, down alone, up and down, and none.
func TestPath(t *testing.T) {
	for _, x := range []struct {
		cur, k      int
		back, forth list
	}{
		{0, 0, nil, nil}, {6, 6, nil, nil},
		{6, 0, list{6, 5, 2, 1}, nil}, {6, 5, list{6}, nil}, {10, 0, list{10, 9}, nil}, {4, 2, list{4, 3}, nil},
		{0, 6, nil, list{1, 2, 5, 6}}, {5, 6, nil, list{6}}, {0, 10, nil, list{9, 10}}, {2, 4, nil, list{3, 4}},
		{6, 7, list{6}, list{7}}, {7, 6, list{7}, list{6}},
		{4, 7, list{4, 3}, list{5, 7}}, {7, 4, list{7, 5}, list{3, 4}},
		{8, 6, list{8}, list{5, 6}}, {6, 8, list{6, 5}, list{8}},
		{4, 10, list{4, 3, 2, 1}, list{9, 10}}, {10, 7, list{10, 9}, list{1, 2, 5, 7}},
		{9, 1, list{9}, list{1}}, {1, 9, list{1}, list{9}},
	} {
		back, forth, e := tree.Path(bush(x.cur), x.k)
		if !slices.Equal(back, x.back) || !slices.Equal(forth, x.forth) || e != api.OK {
			t.Errorf("from %d to %d: %v, %v, error %d", x.cur, x.k, back, forth, e)
		}
	}
	back, forth, e := tree.Path(chain(1024, 1023), 0)
	if len(back) != 1023 || back[0] != 1023 || back[1022] != 1 || len(forth) != 0 || e != api.OK {
		t.Errorf("%d, %d, error %d", len(back), len(forth), e)
	}
	back, forth, e = tree.Path(chain(1024, 0), 1023)
	if len(back) != 0 || len(forth) != 1023 || forth[0] != 1 || forth[1022] != 1023 || e != api.OK {
		t.Errorf("%d, %d, error %d", len(back), len(forth), e)
	}
}

// grown is a tree of n nodes, each of which stands anywhere, with anything as its Next, and anywhere as Cur.
func grown(r *rand.Rand, n int) api.Tree {
	ups := list{}
	for k := range n - 1 {
		// Near ones make long ways, far ones wide forks.
		ups = append(ups, max(r.Intn(k+1), k-r.Intn(1+r.Intn(6))))
	}
	t := made(r.Intn(n), ups...)
	for k := range t.Nodes {
		if l := kids(t, k); len(l) > 0 {
			t.Nodes[k].Next = l[r.Intn(len(l))]
		}
	}
	return t
}

// P11.5: in trees that grew anyhow the way to each node is as the chapter's words say, and To leads there: whoever undoes and does again from there stays on the way.
func TestPathTo(t *testing.T) {
	r := rand.New(rand.NewSource(115))
	for range 300 {
		x := grown(r, 1+r.Intn(30))
		if !right(x) {
			t.Fatalf("%+v", x)
		}
		for k := range x.Nodes {
			here, there := wayUp(x, x.Cur), wayUp(x, k)
			down := less(there, here)
			slices.Reverse(down)
			back, forth, e := tree.Path(x, k)
			if !slices.Equal(back, less(here, there)) || !slices.Equal(forth, down) || e != api.OK {
				t.Fatalf("%+v to %d: %v, %v, error %d", x, k, back, forth, e)
			}
			want := cloned(x)
			want.Cur = k
			for _, i := range there {
				if i != 0 {
					want.Nodes[want.Nodes[i].Up].Next = i
				}
			}
			got, e := tree.To(x, k)
			if !same(got, want) || e != api.OK || !tree.Right(got) {
				t.Fatalf("%+v to %d: %+v, error %d", x, k, got, e)
			}
			walk(t, got, there)
		}
		for _, k := range notNodes(len(x.Nodes)) {
			if back, forth, e := tree.Path(x, k); len(back) != 0 || len(forth) != 0 || e != api.ErrNone {
				t.Errorf("Path to %d: %v, %v, error %d", k, back, forth, e)
			}
			if got, e := tree.To(x, k); !zero(got) || e != api.ErrNone {
				t.Errorf("To %d: %+v, error %d", k, got, e)
			}
		}
	}
}

// walk undoes all of a way up, and does it again.
func walk(t *testing.T, x api.Tree, way list) {
	t.Helper()
	for _, k := range way {
		y, n, ok := tree.Undo(x)
		if n != k || ok != (k != 0) {
			t.Fatalf("%+v: %d, %v, not %d", x, n, ok, k)
		}
		x = y
	}
	for i := len(way) - 2; i >= 0; i-- {
		y, n, ok := tree.Redo(x)
		if n != way[i] || !ok {
			t.Fatalf("%+v: %d, %v, not %d", x, n, ok, way[i])
		}
		x = y
	}
}

// P11.5: To also chooses what is above both ways, and what is there already.
func TestToChooses(t *testing.T) {
	x := with(bush(4), 0, func(n *api.Node) { n.Next = 9 })
	x = with(x, 2, func(n *api.Node) { n.Next = 8 })
	for _, k := range []int{4, 3} {
		got, e := tree.To(x, k)
		want := with(with(x, 0, func(n *api.Node) { n.Next = 1 }), 2, func(n *api.Node) { n.Next = 3 })
		want.Cur = k
		if e != api.OK || !same(got, want) {
			t.Errorf("%d: %+v, error %d", k, got, e)
		}
	}
	// The root has nothing on its way: all stays chosen as it was.
	want := cloned(x)
	want.Cur = 0
	if got, e := tree.To(x, 0); e != api.OK || !same(got, want) {
		t.Errorf("%+v, error %d", got, e)
	}
}

// letters is a tree of texts: 0 "", 1 "a", 2 "ab", 3 "c" beside 2, 4 "\u20acb" below 2, 5 "x" below the root.
func letters(cur int) (api.Tree, []string) {
	t := made(cur, 0, 1, 1, 2, 0)
	t.Nodes[1].Change = api.Change{New: "a"}
	t.Nodes[2].Change = api.Change{At: 1, New: "b"}
	t.Nodes[3].Change = api.Change{Old: "a", New: "c"}
	t.Nodes[4].Change = api.Change{Old: "a", New: "\u20ac"}
	t.Nodes[5].Change = api.Change{New: "x"}
	return t, []string{"", "a", "ab", "c", "\u20acb", "x"}
}

// P11.6: the texts of a small tree, from each of its nodes.
func TestTexts(t *testing.T) {
	for cur := range 6 {
		x, want := letters(cur)
		if got, e := tree.Texts(x, want[cur]); !slices.Equal(got, want) || e != api.OK {
			t.Errorf("at %d: %q, error %d", cur, got, e)
		}
	}
	// The root alone has no change: its text is any text.
	for _, s := range []string{"", "abc", "a\nb", "\xff", strings.Repeat("a", api.MaxText), strings.Repeat("a", api.MaxText+1)} {
		if got, e := tree.Texts(tree.New(), s); len(got) != 1 || got[0] != s || e != api.OK {
			t.Errorf("%q: %q, error %d", s, got, e)
		}
	}
	// A tree of all nodes there may be, each with a letter more.
	x := chain(1024, 700)
	for k := 1; k < 1024; k++ {
		x.Nodes[k].Change = api.Change{At: k - 1, New: "z"}
	}
	got, e := tree.Texts(x, strings.Repeat("z", 700))
	if len(got) != 1024 || e != api.OK {
		t.Fatalf("%d texts, error %d", len(got), e)
	}
	for k, s := range got {
		if s != strings.Repeat("z", k) {
			t.Errorf("%d: %q", k, s)
		}
	}
}

// P11.6: a text that is not that at Cur, or a change that does not fit.
func TestTextsArg(t *testing.T) {
	wrong := []api.Change{
		{At: 9}, {At: -1}, {Old: "q", New: "r"}, {New: "\xff"}, {Old: "\xff"}, {At: math.MaxInt}, {At: math.MinInt},
	}
	for cur := range 6 {
		x, texts := letters(cur)
		for _, s := range []string{"b", "\u20ac", "\xff", "a\xff", "\x80", "a\x82\xac", strings.Repeat("z", api.MaxText+1)} {
			// At the root any text will do that is valid, and has room.
			if cur == 0 && utf8.ValidString(s) {
				continue
			}
			if got, e := tree.Texts(x, s); e != api.ErrArg || len(got) != 0 {
				t.Errorf("at %d, %q: %q, error %d", cur, s, got, e)
			}
		}
		for k := 1; k < 6; k++ {
			for _, c := range wrong {
				y := with(x, k, func(n *api.Node) { n.Change = c })
				if got, e := tree.Texts(y, texts[cur]); e != api.ErrArg || len(got) != 0 {
					t.Errorf("at %d, %d is %+v: %q, error %d", cur, k, c, got, e)
				}
			}
		}
	}
}

// reach is the error of the chapter's words: the nodes in their order, and of each the text that it makes.
func reach(t api.Tree, text string) api.Errno {
	order := wayUp(t, t.Cur)
	order = order[:len(order)-1]
	up := len(order)
	for k := 1; k < len(t.Nodes); k++ {
		if !slices.Contains(order[:up], k) {
			order = append(order, k)
		}
	}
	texts := map[int]string{t.Cur: text}
	for i, k := range order {
		from, to, c := t.Nodes[k].Up, k, t.Nodes[k].Change
		if i < up {
			from, to, c = to, from, api.Change{At: c.At, Old: c.New, New: c.Old}
		}
		s, e := change.Do(texts[from], c)
		if e != api.OK {
			return e
		}
		texts[to] = s
	}
	return api.OK
}

// P11.6: which node is the first one that has an error: from Cur up to the root, then the others by their numbers.
func TestTextsOrder(t *testing.T) {
	full := strings.Repeat("f", api.MaxText)
	room := api.Change{New: full + "f"}
	back := api.Change{Old: full + "f"}
	wrong := api.Change{At: -1}
	for _, x := range []struct {
		cur  int
		c    map[int]api.Change
		want api.Errno
	}{
		{0, map[int]api.Change{}, api.OK},
		// None on the way: by numbers.
		{0, map[int]api.Change{1: room, 2: wrong}, api.ErrRoom},
		{0, map[int]api.Change{1: wrong, 2: room}, api.ErrArg},
		{0, map[int]api.Change{8: room, 9: wrong}, api.ErrRoom},
		{0, map[int]api.Change{8: wrong, 9: room}, api.ErrArg},
		{0, map[int]api.Change{4: wrong, 10: room}, api.ErrArg},
		{0, map[int]api.Change{4: room, 10: wrong}, api.ErrRoom},
		// On the way, the nearest to Cur first.
		{6, map[int]api.Change{6: back, 1: wrong}, api.ErrRoom},
		{6, map[int]api.Change{6: wrong, 1: back}, api.ErrArg},
		{6, map[int]api.Change{5: back, 2: wrong}, api.ErrRoom},
		{6, map[int]api.Change{5: wrong, 2: back}, api.ErrArg},
		{10, map[int]api.Change{10: back, 9: wrong}, api.ErrRoom},
		{10, map[int]api.Change{10: wrong, 9: back}, api.ErrArg},
		// Those on the way ahead of all others, whatever their numbers.
		{10, map[int]api.Change{9: wrong, 1: room}, api.ErrArg},
		{10, map[int]api.Change{9: back, 1: wrong}, api.ErrRoom},
		{6, map[int]api.Change{1: back, 3: wrong}, api.ErrRoom},
		{6, map[int]api.Change{1: wrong, 3: room}, api.ErrArg},
		{10, map[int]api.Change{10: back, 1: wrong}, api.ErrRoom},
		// Of those that are not on it, the least number.
		{6, map[int]api.Change{3: room, 7: wrong}, api.ErrRoom},
		{6, map[int]api.Change{3: wrong, 7: room}, api.ErrArg},
		{6, map[int]api.Change{7: wrong, 10: room}, api.ErrArg},
		{6, map[int]api.Change{7: room, 10: wrong}, api.ErrRoom},
		{10, map[int]api.Change{4: room, 8: wrong}, api.ErrRoom},
		{10, map[int]api.Change{4: wrong, 8: room}, api.ErrArg},
	} {
		y := bush(x.cur)
		for k := range y.Nodes {
			y.Nodes[k].Change = x.c[k]
		}
		got, e := tree.Texts(y, "")
		if e != x.want || e != api.OK && len(got) != 0 || e == api.OK && len(got) != 11 {
			t.Errorf("at %d, %d changes: %q, error %d, not %d", x.cur, len(x.c), got, e, x.want)
		}
	}
}

// P11.6: a text has 4096 bytes at most, on the way up and beside it; only what is behind each change counts.
func TestTextsRoom(t *testing.T) {
	full := strings.Repeat("f", api.MaxText)
	one := func(cur int, c api.Change) api.Tree {
		return with(made(cur, 0), 1, func(n *api.Node) { n.Change = c })
	}
	for _, x := range []struct {
		t    api.Tree
		text string
		want []string
		e    api.Errno
	}{
		{one(0, api.Change{At: 1, New: full[1:]}), "f", []string{"f", full}, api.OK},
		{one(0, api.Change{At: 1, New: full}), "f", nil, api.ErrRoom},
		{one(1, api.Change{At: 1, Old: full[1:]}), "f", []string{full, "f"}, api.OK},
		{one(1, api.Change{At: 1, Old: full}), "f", nil, api.ErrRoom},
		{one(0, api.Change{Old: "f"}), full + "f", []string{full + "f", full}, api.OK},
		{one(0, api.Change{Old: "f", New: "g"}), full + "f", nil, api.ErrRoom},
		{one(1, api.Change{New: "f"}), full + "f", []string{full, full + "f"}, api.OK},
		{one(1, api.Change{Old: "g", New: "f"}), full + "f", nil, api.ErrRoom},
	} {
		if got, e := tree.Texts(x.t, x.text); !slices.Equal(got, x.want) || e != x.e {
			t.Errorf("%d bytes, %d nodes at %d: %d texts, error %d, not %d", len(x.text), len(x.t.Nodes), x.t.Cur, len(got), e, x.e)
		}
	}
}

// text is some short text of runes of one to four bytes.
func text(r *rand.Rand) string {
	runes := []string{"a", "b", "\n", "\u00e9", "\u20ac", "\U0001f600"}
	s := ""
	for range r.Intn(9) {
		s += runes[r.Intn(len(runes))]
	}
	return s
}

// P11.6, P11.7: whatever is edited, undone, done again, chosen and gone to, one step behind the other: the texts are those that were there, nodes stay, all trees may be.
func TestAlike(t *testing.T) {
	r := rand.New(rand.NewSource(117))
	for range 150 {
		texts := []string{text(r)}
		x := tree.New()
		for range 60 {
			was := x
			k := r.Intn(len(x.Nodes) + 1)
			switch r.Intn(6) {
			case 0:
				x, _, _ = tree.Undo(x)
			case 1:
				x, _, _ = tree.Redo(x)
			case 2:
				if y, e := tree.Choose(x, k); e == api.OK {
					x = y
				}
			case 3:
				if y, e := tree.To(x, k); e == api.OK {
					x = y
				}
			default:
				s := text(r)
				y, e := tree.Add(x, change.Diff(texts[x.Cur], s), len(texts[x.Cur]), len(s))
				if e != api.OK {
					t.Fatalf("%+v: error %d", x, e)
				}
				x, texts = y, append(texts, s)
			}
			stays(t, was, x)
			got, e := tree.Texts(x, texts[x.Cur])
			if !slices.Equal(got, texts) || e != api.OK {
				t.Fatalf("%+v: %q, error %d, not %q", x, got, e, texts)
			}
		}
	}
}

// stays complains of a tree that may not be, or in which not all nodes of an earlier one are as they were, but for their Next.
func stays(t *testing.T, was, is api.Tree) {
	t.Helper()
	if !tree.Right(is) || !right(is) || len(is.Nodes) < len(was.Nodes) {
		t.Fatalf("%+v", is)
	}
	for k, n := range was.Nodes {
		n.Next = is.Nodes[k].Next
		if n != is.Nodes[k] {
			t.Fatalf("%+v, not %+v", is.Nodes[k], n)
		}
	}
}

// P11.6: of trees and texts that were made anyhow the error is that of the first node that has one.
func TestTextsOfAny(t *testing.T) {
	r := rand.New(rand.NewSource(116))
	counts := map[api.Errno]int{}
	for range 20000 {
		x := grown(r, 1+r.Intn(6))
		for k := 1; k < len(x.Nodes); k++ {
			c := api.Change{At: r.Intn(3)}
			c.Old = strings.Repeat("a", r.Intn(3))
			c.New = strings.Repeat("a", []int{0, 1, 2, 3, 2047, 4096, 4095}[r.Intn(7)])
			if r.Intn(2) == 0 {
				c.Old, c.New = c.New, c.Old
			}
			x.Nodes[k].Change = c
		}
		s := strings.Repeat("a", []int{0, 3, 10, 2048, 4090, 4096}[r.Intn(6)])
		got, e := tree.Texts(x, s)
		if want := reach(x, s); e != want || (e == api.OK) != (len(got) == len(x.Nodes)) || e != api.OK && len(got) != 0 {
			t.Fatalf("%d bytes, %d nodes: error %d, not %d", len(s), len(x.Nodes), e, want)
		}
		counts[e]++
		if e != api.OK {
			continue
		}
		for k := 1; k < len(got); k++ {
			if s, e := change.Do(got[x.Nodes[k].Up], x.Nodes[k].Change); s != got[k] || e != api.OK {
				t.Fatalf("node %d: error %d", k, e)
			}
		}
	}
	if counts[api.OK] < 1000 || counts[api.ErrArg] < 1000 || counts[api.ErrRoom] < 1000 {
		t.Error(counts)
	}
}

// P11.7: what was undone is done again, and what was done again is undone.
func TestThereAndBack(t *testing.T) {
	for _, x := range rights() {
		if y, n, ok := tree.Redo(x); ok {
			z, m, ok := tree.Undo(y)
			if !ok || m != n || !same(z, x) {
				t.Errorf("%d nodes at %d: %d, %d, %v", len(x.Nodes), x.Cur, n, m, ok)
			}
		}
		// On the way that is chosen.
		x, _ = tree.To(x, x.Cur)
		if y, n, ok := tree.Undo(x); ok {
			z, m, ok := tree.Redo(y)
			if !ok || m != n || !same(z, x) {
				t.Errorf("%d nodes at %d: %d, %d, %v", len(x.Nodes), x.Cur, n, m, ok)
			}
		}
	}
}

// The chapter's example: New, Add, Undo, Add.
func TestExample(t *testing.T) {
	x, _ := tree.Add(tree.New(), api.Change{New: "a"}, 0, 1)
	x, _, _ = tree.Undo(x)
	x, e := tree.Add(x, api.Change{New: "b"}, 0, 1)
	if l := tree.Kids(x, 0); !slices.Equal(l, list{1, 2}) || x.Nodes[0].Next != 2 || x.Cur != 2 || e != api.OK {
		t.Errorf("%+v, kids %v, error %d", x, l, e)
	}
}

// calls makes all calls of a tree, with one number, and tells the trees among the answers.
func calls(x api.Tree, k int) []api.Tree {
	tree.Right(x)
	tree.Same(x, x)
	tree.Kids(x, k)
	tree.Path(x, k)
	tree.Texts(x, "abc")
	tree.Texts(x, strings.Repeat("a", 4096))
	a, _ := tree.Add(x, api.Change{At: k, Old: "a", New: "b"}, 0, max(k, 0))
	b, _, _ := tree.Undo(x)
	c, _, _ := tree.Redo(x)
	d, _ := tree.Choose(x, k)
	e, _ := tree.To(x, k)
	return []api.Tree{a, b, c, d, e}
}

// What is handed in stays as it was, and so does what stands behind its end.
func TestListsStay(t *testing.T) {
	for _, x := range append(rights(), wrongs()...) {
		room := append(slices.Clone(x.Nodes), api.Node{Up: 77}, api.Node{Next: 78})
		was := slices.Clone(room)
		x.Nodes = room[:len(x.Nodes)]
		for _, k := range []int{0, 1, 2, 5, 10} {
			calls(x, k)
		}
		if !slices.Equal(room, was) {
			t.Errorf("%+v, not %+v", room, was)
		}
	}
}

// shared tells whether two texts lie in the same memory.
func shared(a, b string) bool {
	from, to := uintptr(unsafe.Pointer(unsafe.StringData(a))), uintptr(unsafe.Pointer(unsafe.StringData(b)))
	return from < to+uintptr(len(b)) && to < from+uintptr(len(a))
}

// An answer is new memory, also where it is a tree as it came: what is written into it, up to all its room, is not to be seen in what was handed in, and its texts lie elsewhere.
func TestAnswersAreNew(t *testing.T) {
	for cur := range 11 {
		for k := range 11 {
			x := bush(cur)
			for _, answer := range calls(x, k) {
				for i := range min(len(answer.Nodes), 11) {
					a, b := answer.Nodes[i].Change, x.Nodes[i].Change
					if shared(a.Old, b.Old) || shared(a.New, b.New) {
						t.Errorf("at %d, %d: the texts of %d", cur, k, i)
					}
				}
				l := answer.Nodes[:cap(answer.Nodes)]
				for i := range l {
					l[i] = api.Node{Up: 99}
				}
				if !same(x, bush(cur)) {
					t.Fatalf("at %d, %d: %+v", cur, k, x)
				}
			}
		}
	}
	c := api.Change{Old: strings.Repeat("ab", 3), New: strings.Repeat("cd", 3)}
	x, _ := tree.Add(tree.New(), c, 0, 0)
	if shared(x.Nodes[1].Change.Old, c.Old) || shared(x.Nodes[1].Change.New, c.New) || x.Nodes[1].Change != c {
		t.Error("the texts of a new node")
	}
	lists(t)
}

// lists complains of lists and texts of one answer that share memory with each other, or with what was handed in.
func lists(t *testing.T) {
	t.Helper()
	back, forth, _ := tree.Path(bush(4), 7)
	for i := range back[:cap(back)] {
		back[:cap(back)][i] = 99
	}
	for i := range forth[:cap(forth)] {
		if i < len(forth) && forth[i] == 99 {
			t.Error("the two lists of a path")
		}
	}
	for cur := range 6 {
		x, _ := letters(cur)
		// A change that does nothing makes the same text.
		x.Nodes[5].Change = api.Change{}
		_, want := letters(cur)
		s := strings.Clone(want[cur] + "tail")
		got, e := tree.Texts(x, s)
		if e != api.OK {
			continue
		}
		for i, a := range got {
			if shared(a, s) {
				t.Errorf("at %d: text %d", cur, i)
			}
			for j := range i {
				if shared(a, got[j]) {
					t.Errorf("at %d: texts %d and %d", cur, i, j)
				}
			}
		}
	}
}

// What is told of a part of a list hangs on nothing that stands behind its end.
func TestPartOfList(t *testing.T) {
	x := chain(6, 0)
	for n := 1; n < 6; n++ {
		part := api.Tree{Nodes: x.Nodes[:n]}
		if tree.Right(part) {
			t.Errorf("the first %d may be, though the last one has a Next", n)
		}
		y := chain(n, n-1)
		y.Nodes = append(y.Nodes, api.Node{Up: n - 1, Next: -1}, api.Node{Up: -5})[:n]
		if !tree.Right(y) || len(tree.Kids(y, n-1)) != 0 {
			t.Errorf("the first %d: %v", n, tree.Kids(y, n-1))
		}
		if _, _, e := tree.Path(y, n); e != api.ErrNone {
			t.Errorf("the first %d: error %d", n, e)
		}
	}
}

// Whatever is handed in, each call ends and none panics; a tree that is told may be, or is the zero tree.
func TestAnything(t *testing.T) {
	r := rand.New(rand.NewSource(11))
	numbers := list{math.MinInt, math.MinInt + 1, -2, -1, 0, 1, 2, 3, 4, 1023, 1024, math.MaxInt - 1, math.MaxInt}
	some := func() int { return numbers[r.Intn(len(numbers))] }
	for range 30000 {
		x := grown(r, 1+r.Intn(5))
		for range r.Intn(3) {
			n := &x.Nodes[r.Intn(len(x.Nodes))]
			switch r.Intn(6) {
			case 0:
				n.Up = some()
			case 1:
				n.Next = some()
			case 2:
				n.Before = some()
			case 3:
				n.Change = api.Change{At: some(), Old: "a", New: "\xff"}
			case 4:
				x.Nodes = x.Nodes[:r.Intn(len(x.Nodes))+1]
			default:
				x.Cur = some()
			}
		}
		if tree.Right(x) != right(x) {
			t.Fatalf("%+v: %v", x, !right(x))
		}
		for _, y := range calls(x, some()) {
			if !zero(y) && !(right(x) && right(y)) {
				t.Fatalf("%+v: %+v", x, y)
			}
		}
	}
}
