package tree

import (
	"fmt"
	"math"
	"slices"
	"strings"
	"testing"

	"turnspit/api"
)

const top uint64 = 1<<64 - 1

// bare is an empty node.
var bare = api.Node{Left: -1, Right: -1, Up: -1}

// mins are least times at their edges.
func mins() []uint64 { return []uint64{0, 1, 45, 1<<63 - 1, 1 << 63, 1<<63 + 1, top - 4, top} }

// strays are numbers that are no node's, of n nodes, and are not -1.
func strays(n int) []int { return []int{math.MinInt, -1 << 32, -2, n, n + 1, 64, 1 << 32, math.MaxInt} }

// timed tells the key of the node id of n: its lag rises with id, from below 0 to above it.
func timed(min uint64, n, id int) api.Key { return api.Key{V: min + uint64(10*(id-n/2)), Id: id} }

// grow tells the tree of n nodes that a text draws: a node's number, r if it is Red, and its two children, - being none; its nodes are timed.
func grow(min uint64, n int, text string) api.Tree {
	t := api.Tree{Nodes: slices.Repeat([]api.Node{bare}, n)}
	var read func(up int) int
	read = func(up int) int {
		if text[0] == '-' {
			text = text[1:]
			return -1
		}
		id := 0
		for text != "" && text[0] >= '0' && text[0] <= '9' {
			id = 10*id + int(text[0]-'0')
			text = text[1:]
		}
		node := api.Node{In: true, V: timed(min, n, id).V, Left: -1, Right: -1, Up: up}
		text, node.Red = strings.CutPrefix(text, "r")
		if strings.HasPrefix(text, "(") {
			text = text[1:]
			node.Left = read(id)
			text = strings.TrimPrefix(text, ",")
			node.Right = read(id)
			text = strings.TrimPrefix(text, ")")
		}
		t.Nodes[id] = node
		return id
	}
	t.Root = read(-1)
	return t
}

// draft tells the text that draws t.
func draft(t api.Tree) string {
	var tell func(id int) string
	tell = func(id int) string {
		if id == -1 {
			return "-"
		}
		n := t.Nodes[id]
		text := fmt.Sprint(id)
		if n.Red {
			text += "r"
		}
		if n.Left != -1 || n.Right != -1 {
			text += "(" + tell(n.Left) + "," + tell(n.Right) + ")"
		}
		return text
	}
	return tell(t.Root)
}

// mirrored tells t the other way round: its nodes' numbers fall where they rose, what was left is right.
func mirrored(min uint64, t api.Tree) api.Tree {
	n := len(t.Nodes)
	other := func(id int) int {
		if id == -1 {
			return -1
		}
		return n - 1 - id
	}
	m := api.Tree{Root: other(t.Root), Nodes: slices.Repeat([]api.Node{bare}, n)}
	for i, x := range t.Nodes {
		if x.In {
			m.Nodes[other(i)] = api.Node{In: true, Red: x.Red, V: timed(min, n, other(i)).V, Left: other(x.Right), Right: other(x.Left), Up: other(x.Up)}
		}
	}
	return m
}

// same tells whether two trees are the same.
func same(a, b api.Tree) bool { return a.Root == b.Root && slices.Equal(a.Nodes, b.Nodes) }

// guarded tells t, with other nodes behind its length, and a function that says whether all of these are as they were.
func guarded(t api.Tree) (api.Tree, func() bool) {
	long := append(slices.Clone(t.Nodes), bare, api.Node{In: true, V: 77, Left: -1, Right: -1, Up: -1}, api.Node{Red: true, V: 78, Left: 1, Right: 2, Up: 3})
	old := slices.Clone(long)
	return api.Tree{Root: t.Root, Nodes: long[:len(t.Nodes)]}, func() bool { return slices.Equal(long, old) }
}

// spoil writes over all of t's nodes, and what stands behind their length.
func spoil(t api.Tree) {
	l := t.Nodes[:cap(t.Nodes)]
	for i := range l {
		l[i] = api.Node{In: true, Red: true, V: 4711, Left: 47, Right: 11, Up: 4711}
	}
}

// checkRead holds J1's Right, and J4, and that t is not written into.
func checkRead(t *testing.T, x api.Tree, min uint64) {
	t.Helper()
	in, kept := guarded(x)
	if got := Right(in, min); got != wantRight(x, min) {
		t.Fatalf("Right(%v, %d): %t", x, min, got)
	}
	var walk []api.Key
	height := 0
	if wantWhole(x) {
		walk, height = wantWalk(x), wantHeight(x)
	}
	got := Walk(in)
	if !slices.Equal(got, walk) {
		t.Fatalf("Walk(%v): %v; want %v", x, got, walk)
	}
	if got := Height(in); got != height {
		t.Fatalf("Height(%v): %d; want %d", x, got, height)
	}
	var first api.Key
	if len(walk) > 0 {
		first = walk[0]
	}
	if k, ok := First(in); k != first || ok != (len(walk) > 0) {
		t.Fatalf("First(%v): %v, %t; want %v", x, k, ok, first)
	}
	if !kept() {
		t.Fatalf("Right, Walk, Height or First of %v wrote into it", x)
	}
}

// checkInsert holds J2, and that t is not written into, also not by who writes into what is told.
func checkInsert(t *testing.T, x api.Tree, min uint64, k api.Key) api.Tree {
	t.Helper()
	in, kept := guarded(x)
	want, fault := wantInsert(x, min, k)
	got, errno := Insert(in, min, k)
	if errno != fault || !same(got, want) {
		t.Fatalf("Insert(%v, %d, %v): %v, %d; want %v, %d", x, min, k, got, errno, want, fault)
	}
	spoil(got)
	if !kept() {
		t.Fatalf("Insert(%v, %d, %v) wrote into it", x, min, k)
	}
	return want
}

// checkDelete holds J3, and that t is not written into, also not by who writes into what is told.
func checkDelete(t *testing.T, x api.Tree, min uint64, id int) api.Tree {
	t.Helper()
	in, kept := guarded(x)
	want, fault := wantDelete(x, min, id)
	got, errno := Delete(in, min, id)
	if errno != fault || !same(got, want) {
		t.Fatalf("Delete(%v, %d, %d): %v, %d; want %v, %d", x, min, id, got, errno, want, fault)
	}
	spoil(got)
	if !kept() {
		t.Fatalf("Delete(%v, %d, %d) wrote into it", x, min, id)
	}
	return want
}

// checkAll holds J1 to J4 of one tree: each of its nodes' numbers, and what is none, is inserted and deleted.
func checkAll(t *testing.T, x api.Tree, min uint64) {
	t.Helper()
	checkRead(t, x, min)
	for id := -1; id <= len(x.Nodes); id++ {
		checkInsert(t, x, min, timed(min, len(x.Nodes), id))
		checkDelete(t, x, min, id)
	}
}

// J1: what New tells at its edges, and that two calls tell two trees.
func TestNew(t *testing.T) {
	for _, n := range []int{math.MinInt, -65, -2, -1, 65, 66, 128, 1 << 32, math.MaxInt} {
		if x, errno := New(n); !same(x, api.Tree{}) || errno != api.ErrArg {
			t.Errorf("New(%d): %v, %d", n, x, errno)
		}
	}
	for n := range 65 {
		x, errno := New(n)
		if want := (api.Tree{Root: -1, Nodes: slices.Repeat([]api.Node{bare}, n)}); !same(x, want) || errno != api.OK {
			t.Errorf("New(%d): %v, %d", n, x, errno)
		}
		for _, min := range mins() {
			if !Right(x, min) {
				t.Errorf("New(%d) is not right by %d", n, min)
			}
		}
		checkAll(t, x, 7)
		spoil(x)
		if y, _ := New(n); n > 0 && y.Nodes[0] != bare {
			t.Errorf("New(%d) tells what it told ahead", n)
		}
	}
}

// The chapter's example.
func TestExample(t *testing.T) {
	x, _ := New(4)
	for id := 1; id <= 3; id++ {
		x, _ = Insert(x, 0, api.Key{V: uint64(id), Id: id})
	}
	if draft(x) != "2(1r,3r)" {
		t.Error(draft(x))
	}
}

// grown is a tree that is whole, with what else is told of it.
type grown struct {
	text   string
	right  bool
	height int
}

// J1, J4: trees that are whole: right ones, and ones that are not right by each part of that word, on both sides.
func TestWholeTrees(t *testing.T) {
	const n = 17
	for _, x := range []grown{
		{"-", true, 0}, {"5", true, 1}, {"5(3r,-)", true, 2}, {"5(-,7r)", true, 2}, {"5(3r,7r)", true, 2}, {"5(3,7)", true, 2},
		{"5(3,7r(6,9))", true, 3}, {"5(3r(2,4),7)", true, 3}, {"8(4r(2(1r,3r),6),12)", true, 4}, {"8(4(2,6),12(10,14))", true, 3},
		{"5r", false, 1}, {"5r(3,7)", false, 2}, {"5r(3r,7r)", false, 2}, {"5r(3,7r(6,9))", false, 3}, // a Red root
		{"5(3r(2r,-),7r)", false, 3}, {"5(3r(-,4r),7r)", false, 3}, {"5(3r,7r(6r,-))", false, 3}, {"5(3r,7r(-,8r))", false, 3}, {"5(3r(2r,4r),-)", false, 3}, // a Red child of a Red node
		{"8(4r(2r(1,3),6),12)", false, 4}, {"8(4,12r(10,14r(13,15)))", false, 4},
		{"5(3,-)", false, 2}, {"5(-,7)", false, 2}, {"5(3,7r)", false, 2}, {"5(3r,7)", false, 2}, {"5(3(2,-),7)", false, 3}, {"5(3,7(-,8))", false, 3}, // unlike numbers
		{"5(3r(2,-),7r)", false, 3}, {"5(3r(-,4),7r)", false, 3}, {"5(3r,7r(6,-))", false, 3}, {"5(3r,7r(-,8))", false, 3}, {"5(3(2,4),7)", false, 3}, {"5(3,7(6,8))", false, 3},
		{"8(4r(2,6(5,-)),12)", false, 4}, {"8(4(2,6),12(10,14r))", false, 3},
		{"5(7r,3r)", false, 2}, {"5(7,3)", false, 2}, {"5(6r,-)", false, 2}, {"5(-,4r)", false, 2}, {"5(3(2r,6r),8)", false, 3}, {"5(2,8(4r,9r))", false, 3}, // a walk that is not sorted, far off too
		{"1(-,2(-,3(-,4(-,5))))", false, 5}, {"5(4(3(2(1,-),-),-),-)", false, 5}, {"1(5(2(4(3,-),-),-),-)", false, 5}, {"1r(-,5r(2r(-,4r),-))", false, 4},
	} {
		for _, min := range mins() {
			y := grow(min, n, x.text)
			if draft(y) != x.text {
				t.Fatal(x.text, draft(y))
			}
			for _, y := range []api.Tree{y, mirrored(min, y)} {
				if Right(y, min) != x.right || Height(y) != x.height || len(Walk(y)) != len(wantWalk(y)) {
					t.Errorf("by %d: %s: %t, %d, %v", min, draft(y), Right(y, min), Height(y), Walk(y))
				}
				checkAll(t, y, min)
			}
		}
	}
}

// J4: walks and first ones, node by node, of trees that are right and of ones that are just whole.
func TestWalk(t *testing.T) {
	for _, x := range []struct {
		text string
		ids  []int
	}{
		{"-", nil}, {"4", []int{4}}, {"4(2r,6r)", []int{2, 4, 6}}, {"8(4(2,6),12(10,14))", []int{2, 4, 6, 8, 10, 12, 14}}, {"8(4r(2(1r,3r),6),12)", []int{1, 2, 3, 4, 6, 8, 12}},
		{"1r(-,5r(2r(-,4r),-))", []int{1, 2, 4, 5}}, {"4(6,2)", []int{6, 4, 2}}, {"9(8(7(6,-),-),10)", []int{6, 7, 8, 9, 10}}, {"1(-,0(3r,2r))", []int{1, 3, 0, 2}},
	} {
		y := grow(3, 17, x.text)
		var want []api.Key
		for _, id := range x.ids {
			want = append(want, timed(3, 17, id))
		}
		if l := Walk(y); !slices.Equal(l, want) {
			t.Errorf("Walk of %s: %v", x.text, l)
		}
		k, ok := First(y)
		if ok != (len(want) > 0) || ok && k != want[0] || !ok && k != (api.Key{}) {
			t.Errorf("First of %s: %v, %t", x.text, k, ok)
		}
	}
	a, b := grow(3, 17, "4(2r,6r)"), grow(3, 17, "4(2r,6r)")
	l := Walk(a)
	l = l[:cap(l)]
	for i := range l {
		l[i] = api.Key{V: 4711, Id: 4711}
	}
	if !same(a, b) || Walk(a)[0] != timed(3, 17, 2) {
		t.Error("who writes into a walk writes into the tree")
	}
}

// row tells a tree of n nodes, all of them In, each the right child of the one ahead of it.
func row(n int) api.Tree {
	t := api.Tree{Root: 0}
	for i := range n {
		t.Nodes = append(t.Nodes, api.Node{In: true, V: uint64(i), Left: -1, Right: i + 1, Up: i - 1})
	}
	t.Nodes[n-1].Right = -1
	return t
}

// J1, J4: no nodes, nil or not; 64 nodes, and more, none or all of them In.
func TestNumbersOfNodes(t *testing.T) {
	for _, nodes := range [][]api.Node{nil, {}} {
		none := api.Tree{Root: -1, Nodes: nodes}
		if !Right(none, 5) || len(Walk(none)) != 0 || Height(none) != 0 {
			t.Errorf("%v is not right", none)
		}
		for _, root := range append(strays(0), -1, 0, 1) {
			checkAll(t, api.Tree{Root: root, Nodes: nodes}, 5)
			if root != -1 && Right(api.Tree{Root: root, Nodes: nodes}, 5) {
				t.Errorf("no nodes, with the root %d, are right", root)
			}
		}
	}
	for _, n := range []int{1, 2, 63, 64, 65, 66, 1000, 1 << 18} {
		if x := row(n); n <= 64 && (len(Walk(x)) != n || Height(x) != n) || n > 64 && (len(Walk(x)) != 0 || Height(x) != 0) {
			t.Errorf("a row of %d: %d, %d", n, len(Walk(x)), Height(x))
		}
		few := api.Tree{Root: 0, Nodes: slices.Repeat([]api.Node{bare}, n)}
		few.Nodes[0].In = true
		if Right(few, 0) != (n <= 64) || (Height(few) == 1) != (n <= 64) {
			t.Errorf("one of %d", n)
		}
		none := api.Tree{Root: -1, Nodes: slices.Repeat([]api.Node{bare}, n)}
		if Right(none, 0) != (n <= 64) {
			t.Errorf("none of %d", n)
		}
		if n > 66 {
			continue
		}
		checkAll(t, row(n), 5)
		checkAll(t, few, 5)
		checkAll(t, none, 5)
	}
}

// refused tells whether nothing is told of x but that it is not right.
func refused(x api.Tree, min uint64, id int) bool {
	a, e := Insert(x, min, api.Key{V: min, Id: id})
	b, f := Delete(x, min, id)
	_, ok := First(x)
	return !Right(x, min) && e == api.ErrOrder && f == api.ErrOrder && same(a, api.Tree{}) && same(b, api.Tree{}) && !ok && len(Walk(x)) == 0 && Height(x) == 0
}

// changed tells t with its node id changed.
func changed(t api.Tree, id int, change func(n *api.Node)) api.Tree {
	t.Nodes = slices.Clone(t.Nodes)
	change(&t.Nodes[id])
	return t
}

// J1, J2, J3, J4: trees that are not whole, by each part of that word; ErrOrder is told ahead of ErrArg and ErrIdle.
func TestNotWhole(t *testing.T) {
	const n = 9
	good := grow(0, n, "4(2(1r,-),6r(5,7(-,8r)))")
	if !Right(good, 0) {
		t.Fatal(good)
	}
	bad := map[string]api.Tree{
		"not In, Red":            changed(good, 3, func(x *api.Node) { x.Red = true }),
		"not In, with a time":    changed(good, 3, func(x *api.Node) { x.V = 1 }),
		"not In, with Left":      changed(good, 3, func(x *api.Node) { x.Left = 0 }),
		"not In, with Right":     changed(good, 3, func(x *api.Node) { x.Right = 0 }),
		"not In, with Up":        changed(good, 3, func(x *api.Node) { x.Up = 2 }),
		"not In, come by":        changed(good, 2, func(x *api.Node) { x.Right = 3 }),
		"not In, come by and Up": changed(changed(good, 2, func(x *api.Node) { x.Right = 3 }), 3, func(x *api.Node) { x.Up = 2 }),
		"no more In":             changed(good, 1, func(x *api.Node) { *x = bare }),
		"In, and not come by":    changed(good, 3, func(x *api.Node) { x.In = true }),
		"In, Up, not come by":    changed(good, 3, func(x *api.Node) { x.In, x.Up = true, 2 }),
		"twice by one":           changed(good, 2, func(x *api.Node) { x.Right = 1 }),
		"twice by two":           changed(good, 5, func(x *api.Node) { x.Left = 1 }),
		"a ring to the root":     changed(good, 8, func(x *api.Node) { x.Right = 4 }),
		"a ring and Up":          changed(changed(good, 8, func(x *api.Node) { x.Right = 4 }), 4, func(x *api.Node) { x.Up = 8 }),
		"a ring to itself":       changed(good, 8, func(x *api.Node) { x.Right = 8 }),
		"a ring back":            changed(good, 8, func(x *api.Node) { x.Left = 7 }),
		"a ring aside":           changed(changed(good, 3, func(x *api.Node) { *x = api.Node{In: true, Left: 0, Right: -1, Up: 0} }), 0, func(x *api.Node) { *x = api.Node{In: true, Left: 3, Right: -1, Up: 3} }),
		"a node its own Up":      changed(good, 3, func(x *api.Node) { *x = api.Node{In: true, Left: 3, Right: -1, Up: 3} }),
		"another Up":             changed(good, 8, func(x *api.Node) { x.Up = 6 }),
		"no Up":                  changed(good, 8, func(x *api.Node) { x.Up = -1 }),
		"itself as Up":           changed(good, 8, func(x *api.Node) { x.Up = 8 }),
		"a root with Up":         changed(good, 4, func(x *api.Node) { x.Up = 6 }),
		"a root its own Up":      changed(good, 4, func(x *api.Node) { x.Up = 4 }),
		"no root":                {Root: -1, Nodes: good.Nodes},
		"a root below it":        {Root: 6, Nodes: good.Nodes},
		"a root that is empty":   {Root: 3, Nodes: good.Nodes},
		"all empty, with a root": {Root: 0, Nodes: slices.Repeat([]api.Node{bare}, n)},
		"one, without a root":    {Root: -1, Nodes: []api.Node{{In: true, Left: -1, Right: -1, Up: -1}}},
		"too many nodes":         {Root: 4, Nodes: append(slices.Clone(good.Nodes), slices.Repeat([]api.Node{bare}, 56)...)},
		"nodes of zeros":         {Nodes: make([]api.Node, 3)},
		"nothing at all":         {},
	}
	for _, far := range strays(n) {
		bad[fmt.Sprint("Root ", far)] = api.Tree{Root: far, Nodes: good.Nodes}
		bad[fmt.Sprint("Left ", far)] = changed(good, 5, func(x *api.Node) { x.Left = far })
		bad[fmt.Sprint("Right ", far)] = changed(good, 5, func(x *api.Node) { x.Right = far })
		bad[fmt.Sprint("Up ", far)] = changed(good, 5, func(x *api.Node) { x.Up = far })
		bad[fmt.Sprint("Up of the root ", far)] = changed(good, 4, func(x *api.Node) { x.Up = far })
		bad[fmt.Sprint("empty, Left ", far)] = changed(good, 0, func(x *api.Node) { x.Left = far })
		bad[fmt.Sprint("empty, Right ", far)] = changed(good, 0, func(x *api.Node) { x.Right = far })
		bad[fmt.Sprint("empty, Up ", far)] = changed(good, 0, func(x *api.Node) { x.Up = far })
	}
	for name, x := range bad {
		for id := -1; id <= n; id++ {
			if !refused(x, 0, id) {
				t.Errorf("%s: %v, %d", name, x, id)
			}
		}
		checkAll(t, x, 0)
	}
}

// J2, J3: Ids that are none, that are In and are not; by trees that are not right ErrOrder is told ahead of these; nothing beside an error.
func TestWrong(t *testing.T) {
	const n = 9
	for _, min := range mins() {
		for _, x := range []struct {
			text  string
			id    int
			errno [2]api.Errno // of Insert, of Delete
		}{
			{"4(2r,6r)", 3, [2]api.Errno{api.OK, api.ErrIdle}}, {"4(2r,6r)", 0, [2]api.Errno{api.OK, api.ErrIdle}}, {"4(2r,6r)", 8, [2]api.Errno{api.OK, api.ErrIdle}}, {"-", 8, [2]api.Errno{api.OK, api.ErrIdle}},
			{"4(2r,6r)", 4, [2]api.Errno{api.ErrArg, api.OK}}, {"4(2r,6r)", 6, [2]api.Errno{api.ErrArg, api.OK}}, {"0", 0, [2]api.Errno{api.ErrArg, api.OK}}, {"8", 8, [2]api.Errno{api.ErrArg, api.OK}},
			{"4(2r,6r)", -1, [2]api.Errno{api.ErrArg, api.ErrArg}}, {"4(2r,6r)", 9, [2]api.Errno{api.ErrArg, api.ErrArg}}, {"-", 9, [2]api.Errno{api.ErrArg, api.ErrArg}}, {"-", -1, [2]api.Errno{api.ErrArg, api.ErrArg}},
			{"4(2r,6r)", 64, [2]api.Errno{api.ErrArg, api.ErrArg}}, {"4(2r,6r)", math.MinInt, [2]api.Errno{api.ErrArg, api.ErrArg}}, {"4(2r,6r)", math.MaxInt, [2]api.Errno{api.ErrArg, api.ErrArg}},
			{"4(6,2)", 3, [2]api.Errno{api.ErrOrder, api.ErrOrder}}, {"4(6,2)", 4, [2]api.Errno{api.ErrOrder, api.ErrOrder}}, {"4r", -1, [2]api.Errno{api.ErrOrder, api.ErrOrder}}, {"4(2,-)", 9, [2]api.Errno{api.ErrOrder, api.ErrOrder}},
			{"4(2r(1r,-),6)", math.MinInt, [2]api.Errno{api.ErrOrder, api.ErrOrder}}, {"4r", math.MaxInt, [2]api.Errno{api.ErrOrder, api.ErrOrder}}, {"4r", 3, [2]api.Errno{api.ErrOrder, api.ErrOrder}},
		} {
			y := grow(min, n, x.text)
			a, e := Insert(y, min, api.Key{V: 3, Id: x.id})
			b, f := Delete(y, min, x.id)
			if e != x.errno[0] || f != x.errno[1] {
				t.Errorf("by %d: %s, %d: %d, %d", min, x.text, x.id, e, f)
			}
			if e != api.OK && !same(a, api.Tree{}) || f != api.OK && !same(b, api.Tree{}) {
				t.Errorf("by %d: %s, %d: %v, %v beside an error", min, x.text, x.id, a, b)
			}
			checkInsert(t, y, min, api.Key{V: 3, Id: x.id})
			checkDelete(t, y, min, x.id)
		}
	}
}

// J1, J2, J3: a tree is right by one least time, and not by another one, by which a time of it is on the other side.
func TestOtherMin(t *testing.T) {
	x := grow(100, 9, "4(2,6)") // times 80, 100, 120
	for _, y := range []struct {
		min  uint64
		want bool
	}{{0, true}, {80, true}, {100, true}, {120, true}, {1<<63 + 80, true}, {1<<63 + 81, false}, {1<<63 + 100, false}, {1<<63 + 101, false}, {1<<63 + 120, false}, {1<<63 + 121, true}, {top, true}} {
		_, e := Insert(x, y.min, api.Key{V: 90, Id: 3})
		_, f := Delete(x, y.min, 2)
		if Right(x, y.min) != y.want || (e == api.OK) != y.want || (f == api.OK) != y.want {
			t.Errorf("by %d: %t, %d, %d", y.min, Right(x, y.min), e, f)
		}
		checkAll(t, x, y.min)
	}
}

// step is what becomes of a tree, id being inserted or deleted.
type step struct {
	from string
	id   int
	to   string
}

// holdStep holds one step, node by node.
func holdStep(t *testing.T, from api.Tree, min uint64, id int, to api.Tree, insert bool) {
	t.Helper()
	if !wantRight(from, min) || !wantRight(to, min) {
		t.Fatalf("%s, %s: not right", draft(from), draft(to))
	}
	got, errno := Delete(from, min, id)
	if insert {
		got, errno = Insert(from, min, timed(min, len(from.Nodes), id))
	}
	if errno != api.OK || !same(got, to) {
		t.Errorf("by %d: %s, %d: %s, %d; want %s", min, draft(from), id, draft(got), errno, draft(to))
	}
	checkAll(t, from, min)
}

// J2: where a key is put, and each case of mending, on both sides.
func TestInsert(t *testing.T) {
	const n = 17
	for _, x := range []step{
		{"-", 4, "4"}, {"4", 2, "4(2r,-)"}, {"4(2r,-)", 6, "4(2r,6r)"}, // nothing to be mended
		{"4(2,6)", 1, "4(2(1r,-),6)"}, {"4(2,6)", 3, "4(2(-,3r),6)"}, {"8(4(2,6),12(10,14))", 11, "8(4(2,6),12(10(-,11r),14))"},
		{"4(2r,6r)", 1, "4(2(1r,-),6)"}, {"4(2r,6r)", 3, "4(2(-,3r),6)"}, // u Red, g being the root, x outer or inner
		{"8(4(2r,6r),12)", 1, "8(4r(2(1r,-),6),12)"}, {"8(4(2r,6r),12)", 3, "8(4r(2(-,3r),6),12)"}, {"8(4(2r,6r),12)", 5, "8(4r(2,6(5r,-)),12)"}, {"8(4(2r,6r),12)", 7, "8(4r(2,6(-,7r)),12)"}, // g a child of one that is not Red
		{"8(4,12(10r,14r))", 9, "8(4,12r(10(9r,-),14))"}, {"8(4,12(10r,14r))", 15, "8(4,12r(10,14(-,15r)))"},
		{"4(2r,-)", 1, "2(1r,4r)"}, {"4(2r,-)", 3, "3(2r,4r)"}, // outer and inner, u lacks, g being the root
		{"8(4(2r,-),12)", 1, "8(2(1r,4r),12)"}, {"8(4(2r,-),12)", 3, "8(3(2r,4r),12)"}, {"8(4(-,6r),12)", 7, "8(6(4r,7r),12)"}, {"8(4(-,6r),12)", 5, "8(5(4r,6r),12)"}, // g a left child
		{"8(4,12(10r,-))", 9, "8(4,10(9r,12r))"}, {"8(4,12(10r,-))", 11, "8(4,11(10r,12r))"}, {"8(4,12(-,14r))", 15, "8(4,14(12r,15r))"}, {"8(4,12(-,14r))", 13, "8(4,13(12r,14r))"}, // g a right child
		{"8(4r(2(-,3r),6),12)", 5, "8(4r(2(-,3r),6(5r,-)),12)"}, {"8(4r(2,6(5r,7r)),12)", 15, "8(4r(2,6(5r,7r)),12(-,15r))"}, // p not Red, with Red ones elsewhere
		{"8(4r(2(1r,3r),6),12r(10,14))", 0, "8(4(2r(1(0r,-),3),6),12(10,14))"},             // u Red, and again
		{"8(4r(2(1r,3r),6),12)", 0, "4(2r(1(0r,-),3),8r(6,12))"},                           // u Red, then an outer x
		{"8(3r(2,6(5r,7r)),12)", 4, "6(3r(2,5(4r,-)),8r(7,12))"},                           // u Red, then an inner x
		{"10(8(3r(2,6(5r,7r)),9),14(12,15))", 4, "10(6(3r(2,5(4r,-)),8r(7,9)),14(12,15))"}, // the same, not at the root
	} {
		for _, min := range mins() {
			from, to := grow(min, n, x.from), grow(min, n, x.to)
			holdStep(t, from, min, x.id, to, true)
			holdStep(t, mirrored(min, from), min, n-1-x.id, mirrored(min, to), true)
		}
	}
}

// J3: a node without a child, or with one, and each case of filling, on both sides.
func TestDelete(t *testing.T) {
	const n = 25
	for _, x := range []step{
		{"4", 4, "-"}, {"4(2r,6r)", 2, "4(-,6r)"}, {"8(4r(2(-,3r),6),12)", 3, "8(4r(2,6),12)"}, // without a child, nothing to be filled
		{"4(2r,-)", 4, "2"}, {"8(4(2r,-),12)", 4, "8(2,12)"}, {"8(4(-,6r),12)", 4, "8(6,12)"}, {"8(4r(2(1r,-),6),12)", 2, "8(4r(1,6),12)"}, {"8(4r(2(-,3r),6),12)", 2, "8(4r(3,6),12)"}, // a child that is Red
		{"4(2,6)", 2, "4(-,6r)"}, {"8(4r(2,6),12)", 2, "8(4(-,6r),12)"}, {"8(4r(2,6),12)", 6, "8(4(2r,-),12)"}, // w without a Red child: the place comes to the root's, or to a Red p
		{"8(4(2,6),12(10,14))", 2, "8(4(-,6r),12r(10,14))"}, {"8(4(2,6),12(10,14))", 6, "8(4(2r,-),12r(10,14))"}, // twice, up to the root's
		{"16(8r(4(2,6),12(10,14)),20(18,22))", 2, "16(8(4(-,6r),12r(10,14)),20(18,22))"}, // twice, up to one that is Red
		{"4(2,6(-,7r))", 2, "6(4,7)"}, {"8(4r(2,6(-,7r)),12)", 2, "8(6r(4,7),12)"}, {"8(4r(2(1r,-),6),12)", 6, "8(2r(1,4),12)"}, {"8(4(2,6(-,7r)),12(10,14))", 2, "8(6(4,7),12(10,14))"}, // w's far child Red
		{"4(2,6(5r,7r))", 2, "6(4(-,5r),7)"}, {"8(4r(2,6(5r,7r)),12)", 2, "8(6r(4(-,5r),7),12)"}, // both Red
		{"4(2,6(5r,-))", 2, "5(4,6)"}, {"8(4r(2,6(5r,-)),12)", 2, "8(5r(4,6),12)"}, {"8(4r(2(-,3r),6),12)", 6, "8(3r(2,4),12)"}, {"8(4(2,6(5r,-)),12(10,14))", 2, "8(5(4,6),12(10,14))"}, // the near one alone
		{"4(2,8r(6,10))", 2, "8(4(-,6r),10)"}, {"4(2,8r(6(-,7r),10))", 2, "8(6r(4,7),10)"}, {"4(2,8r(6(5r,-),10))", 2, "8(5r(4,6),10)"}, {"4(2,8r(6(5r,7r),10))", 2, "8(6r(4(-,5r),7),10)"}, // w Red, then each of these
		{"12(4(2,8r(6,10)),16(14,18))", 2, "12(8(4(-,6r),10),16(14,18))"}, {"4(2(1,3),12(8r(6,10),16))", 16, "4(2(1,3),8(6,12(10r,-)))"}, // w Red, not at the root
		{"8(4(2,6),12(10,14r(13,15)))", 2, "12(8(4(-,6r),10),14(13,15))"},                             // the place is p's, then the far child Red
		{"8(4(2,6),12(10r(9,11),14))", 2, "10(8(4(-,6r),9),12(11,14))"},                               // then the near one, with children
		{"8(4(2,6),12(10r(9,11),14r(13,15)))", 2, "12(8(4(-,6r),10r(9,11)),14(13,15))"},               // then both
		{"8(4(2,6),16r(12(10,14),20(18,22)))", 2, "16(8(4(-,6r),12r(10,14)),20(18,22))"},              // then w Red, without a Red child behind it
		{"8(4(2,6),16r(12(10r(9,11),14),20(18,22)))", 2, "16(10r(8(4(-,6r),9),12(11,14)),20(18,22))"}, // then w Red, and a near one
	} {
		for _, min := range mins() {
			from, to := grow(min, n, x.from), grow(min, n, x.to)
			if from.Nodes[x.id].Left != -1 && from.Nodes[x.id].Right != -1 {
				t.Fatal(x)
			}
			holdStep(t, from, min, x.id, to, false)
			holdStep(t, mirrored(min, from), min, n-1-x.id, mirrored(min, to), false)
		}
	}
}

// J3: a node with two children, y being its right child or further off; what goes Red or not, with and without a child in y's place; y takes z's color. The place is a left and a right one.
func TestDeleteBetween(t *testing.T) {
	const n = 25
	for _, x := range []step{
		{"4(2r,6r)", 4, "6(2r,-)"}, {"8(4(2r,6r),12)", 4, "8(6(2r,-),12)"}, {"8(4,12(10r,14r))", 12, "8(4,14(10r,-))"}, // y its child, Red
		{"4(2,6(-,7r))", 4, "6(2,7)"}, {"8(4r(2,6(-,7r)),12)", 4, "8(6r(2,7),12)"}, // y its child, a Red one in y's place
		{"4(2,6)", 4, "6(2r,-)"}, {"8(4r(2,6),12)", 4, "8(6(2r,-),12)"}, {"8(4(2,6),12(10,14))", 4, "8(6(2r,-),12r(10,14))"}, // w without a Red child
		{"4(2(1r,-),6)", 4, "2(1,6)"}, {"8(4r(2(1r,-),6),12)", 4, "8(2r(1,6),12)"}, {"4(2(1r,3r),6)", 4, "2(1,6(3r,-))"}, // w's far child Red
		{"4(2(-,3r),6)", 4, "3(2,6)"}, {"8(4r(2(-,3r),6),12)", 4, "8(3r(2,6),12)"}, // the near one alone
		{"8(4r(2,6),10)", 8, "4(2,10(6r,-))"}, {"8(4r(2,6(5r,-)),10)", 8, "4(2,6r(5,10))"}, {"8(4r(2,6(-,7r)),10)", 8, "4(2,7r(6,10))"}, // w Red
		{"4(2,8(6r,-))", 4, "6(2,8)"}, {"4(2,8(6r,9r))", 4, "6(2,8(-,9r))"}, {"1(0,4r(2,8(6r,-)))", 4, "1(0,6r(2,8))"}, // y further off, Red
		{"4(2r(1,3),8r(6(-,7r),10))", 4, "6(2r(1,3),8r(7,10))"}, {"4(2,8r(6(-,7r),10))", 4, "6(2,8r(7,10))"}, // further off, a Red one in y's place
		{"4(2r(1,3),8r(6,10))", 4, "6(2r(1,3),8(-,10r))"}, {"4(2,8r(6,10))", 4, "6(2,8(-,10r))"}, {"4(2,8r(6,10(-,11r)))", 4, "6(2,10r(8,11))"}, {"4(2,8r(6,10(9r,-)))", 4, "6(2,9r(8,10))"}, // further off, to be filled
		{"8(4(2,6),12(10,14))", 8, "10(4r(2,6),12(-,14r))"}, {"8(4r(2(1,3),6(5,7)),16(12,20))", 8, "4(2(1,3),12(6r(5,7),16(-,20r)))"},
		{"8(4(2,6),20(16r(12,18),22))", 8, "12(4(2,6),20(16(-,18r),22))"}, // y's way by Left is a long one
		{"8(4(2,6),20(16r(12,18(17r,-)),22))", 8, "12(4(2,6),20(17r(16,18),22))"},
	} {
		for _, min := range mins() {
			holdStep(t, grow(min, n, x.from), min, x.id, grow(min, n, x.to), false)
		}
	}
}

// draw tells a closure that tells numbers, the same ones of a seed each time.
func draw(seed uint64) func() uint64 {
	return func() uint64 {
		seed = seed*6364136223846793005 + 1442695040888963407
		n := seed
		n ^= n >> 29
		return n * 0x9e3779b97f4a7c15
	}
}

// sketch is a right tree's part: the text that draws it, with as many nodes that are not Red on each way.
type sketch struct {
	text  string
	plain int
	red   bool
}

// sketches tells all parts of right trees whose nodes are the odd numbers from 2a+1 on, below 2b+1.
func sketches(a, b int) []sketch {
	if a == b {
		return []sketch{{"-", 0, false}}
	}
	var l []sketch
	for at := a; at < b; at++ {
		for _, here := range sketches(a, at) {
			for _, there := range sketches(at+1, b) {
				if here.plain != there.plain {
					continue
				}
				below := "(" + here.text + "," + there.text + ")"
				l = append(l, sketch{fmt.Sprint(2*at+1) + below, here.plain + 1, false})
				if !here.red && !there.red {
					l = append(l, sketch{fmt.Sprint(2*at+1) + "r" + below, here.plain, true})
				}
			}
		}
	}
	return l
}

// J1 to J4: of all right trees of at most ten nodes, each node deleted, and one inserted between each two of them; the Red roots are refused.
func TestAllSmall(t *testing.T) {
	counts := []int{}
	for n := range 11 {
		count := 0
		for _, s := range sketches(0, n) {
			x := grow(5, 2*n+1, s.text)
			if Right(x, 5) == s.red {
				t.Fatal(s.text)
			}
			if !s.red {
				count++
			}
			checkAll(t, x, 5)
		}
		counts = append(counts, count)
	}
	if want := []int{1, 1, 2, 2, 4, 8, 16, 33, 56, 90, 164}; !slices.Equal(counts, want) {
		t.Errorf("%v right trees, not %v", counts, want)
	}
}

// J1, J4: all trees of two nodes whose parts are near their edges.
func TestAllOfTwo(t *testing.T) {
	var nodes []api.Node
	for i := range 8 * 64 {
		nodes = append(nodes, api.Node{In: i&1 != 0, Red: i&2 != 0, V: uint64(i >> 2 & 1), Left: i>>3&3 - 1, Right: i>>5&3 - 1, Up: i>>7&3 - 1})
	}
	whole := 0
	for _, a := range nodes {
		for _, b := range nodes {
			for root := -1; root <= 1; root++ {
				x := api.Tree{Root: root, Nodes: []api.Node{a, b}}
				if wantWhole(x) {
					whole++
					checkAll(t, x, 0)
				} else if Right(x, 0) || Height(x) != 0 || len(Walk(x)) != 0 {
					t.Fatal(x)
				}
			}
		}
	}
	if whole != 1+2*4+2*2*16 { // none; one of the two; either one as the root, the other one on either side; each In one with both times and colors
		t.Error(whole)
	}
}

// harms tells x with one part of one node, or its Root, being another one.
func harms(x api.Tree, id int) []api.Tree {
	l := []api.Tree{
		changed(x, id, func(n *api.Node) { n.In = !n.In }), changed(x, id, func(n *api.Node) { n.Red = !n.Red }), changed(x, id, func(n *api.Node) { *n = bare }),
		changed(x, id, func(n *api.Node) { n.V++ }), changed(x, id, func(n *api.Node) { n.V += 35 }), changed(x, id, func(n *api.Node) { n.V -= 35 }), changed(x, id, func(n *api.Node) { n.V += 1 << 63 }),
		changed(x, id, func(n *api.Node) { n.Left, n.Right = n.Right, n.Left }),
	}
	for _, to := range append(strays(len(x.Nodes)), -1, 0, 1, 2, 3, 4, 5, 6, 7, 8) {
		l = append(l, changed(x, id, func(n *api.Node) { n.Left = to }), changed(x, id, func(n *api.Node) { n.Right = to }), changed(x, id, func(n *api.Node) { n.Up = to }), api.Tree{Root: to, Nodes: x.Nodes})
	}
	return l
}

// J1 to J4: right trees with one part, or two parts, that are other ones.
func TestHarmed(t *testing.T) {
	const n = 9
	next := draw(3)
	for _, text := range []string{"-", "4", "4(2r,-)", "4(2r,6r)", "4(2,6(5r,-))", "4(2,6r(5,8))", "4(2(1r,3r),6)", "4(2(0r,-),6r(5,7(-,8r)))", "3(1(0,2),5(4,7(6r,8r)))"} {
		for _, min := range []uint64{0, 20, top} {
			x := grow(min, n, text)
			for id := range n {
				for _, y := range harms(x, id) {
					checkRead(t, y, min)
					checkInsert(t, y, min, timed(min, n, id))
					checkDelete(t, y, min, id)
					more := harms(y, int(next()%n))
					for range 3 {
						z, id := more[next()%uint64(len(more))], int(next()%n)
						checkRead(t, z, min)
						checkInsert(t, z, min, timed(min, n, id))
						checkDelete(t, z, min, id)
					}
				}
			}
		}
	}
}

// J2: the same time with unlike Ids; times at the least and the greatest lag.
func TestSameTimes(t *testing.T) {
	for _, min := range mins() {
		for _, v := range []uint64{0, min - 1, min, min + 1, min + 1<<63, min + 1<<63 - 1, top} {
			x, _ := New(64)
			for i := range 64 {
				id := i * 27 % 64
				y, errno := Insert(x, min, api.Key{V: v, Id: id})
				if want, _ := wantInsert(x, min, api.Key{V: v, Id: id}); errno != api.OK || !same(y, want) {
					t.Fatalf("by %d: %d at %d: %v, %d", min, id, v, y, errno)
				}
				x = y
			}
			for i, k := range Walk(x) {
				if k != (api.Key{V: v, Id: i}) {
					t.Fatalf("by %d: %d: %v", min, i, k)
				}
			}
		}
		x, _ := New(3)
		x, _ = Insert(x, min, api.Key{V: min + 1<<63 - 1, Id: 0}) // the greatest lag, and next to it, all the way round, the least
		x, _ = Insert(x, min, api.Key{V: min + 1<<63, Id: 2})
		x, _ = Insert(x, min, api.Key{V: min, Id: 1})
		if draft(x) != "1(2r,0r)" {
			t.Errorf("by %d: %s", min, draft(x))
		}
	}
}

// low tells whether h is at most twice the logarithm, to the base 2, of n+1.
func low(h, n int) bool { return 1<<h <= (n+1)*(n+1) }

// checkRight holds J5: x is right by min, with just the keys l, and is low.
func checkRight(t *testing.T, x api.Tree, min uint64, l []api.Key) {
	t.Helper()
	sorted := slices.SortedFunc(slices.Values(l), func(a, b api.Key) int {
		if wantLess(min, a, b) {
			return -1
		}
		return 1
	})
	if !Right(x, min) || !wantRight(x, min) {
		t.Fatalf("%s is not right by %d", draft(x), min)
	}
	if !slices.Equal(Walk(x), sorted) {
		t.Fatalf("by %d: %s is %v, not %v", min, draft(x), Walk(x), sorted)
	}
	if !low(Height(x), len(l)) || Height(x) != wantHeight(x) {
		t.Fatalf("%s: of %d keys it is %d high", draft(x), len(l), Height(x))
	}
}

// putAll tells the tree of all these keys, put in one by one, and holds J5 at each.
func putAll(t *testing.T, x api.Tree, min uint64, l []api.Key) api.Tree {
	t.Helper()
	for i, k := range l {
		want, _ := wantInsert(x, min, k)
		y, errno := Insert(x, min, k)
		if errno != api.OK || !same(y, want) {
			t.Fatalf("by %d: %s, %v: %s, %d", min, draft(x), k, draft(y), errno)
		}
		checkRight(t, y, min, l[:i+1])
		x = y
	}
	return x
}

// takeAll takes all these keys out one by one, and holds J5 at each, and that none is left.
func takeAll(t *testing.T, x api.Tree, min uint64, l []api.Key) {
	t.Helper()
	for i, k := range l {
		want, _ := wantDelete(x, min, k.Id)
		y, errno := Delete(x, min, k.Id)
		if errno != api.OK || !same(y, want) {
			t.Fatalf("by %d: %s, %v: %s, %d", min, draft(x), k, draft(y), errno)
		}
		checkRight(t, y, min, l[i+1:])
		x = y
	}
	if none, _ := New(len(x.Nodes)); !same(x, none) {
		t.Fatal(x)
	}
}

// orders tells l in rows of unlike kinds: as it is, back, from both ends, by odd steps, and in no order.
func orders(l []api.Key, next func() uint64) [][]api.Key {
	back := slices.Clone(l)
	slices.Reverse(back)
	var ends, steps []api.Key
	for i := range l {
		if i%2 == 0 {
			ends = append(ends, l[i/2])
		} else {
			ends = append(ends, l[len(l)-1-i/2])
		}
		steps = append(steps, l[i*27%len(l)])
	}
	mixed := slices.Clone(l)
	for i := range mixed {
		j := int(next() % uint64(i+1))
		mixed[i], mixed[j] = mixed[j], mixed[i]
	}
	return [][]api.Key{l, back, ends, steps, mixed}
}

// J5: 64 keys put in, in each of these orders, and taken out in each of them.
func TestTheorem(t *testing.T) {
	next := draw(9)
	for _, min := range []uint64{0, 7, 1 << 63, top} {
		var rising, wild []api.Key
		for id := range 64 {
			rising = append(rising, timed(min, 64, id))
			wild = append(wild, api.Key{V: next() >> (next() & 63), Id: id})
		}
		for _, l := range [][]api.Key{rising, wild} {
			for _, in := range orders(l, next) {
				none, _ := New(64)
				x := putAll(t, none, min, in)
				for _, out := range orders(l, next) {
					takeAll(t, x, min, out)
				}
			}
		}
	}
}

// J5: long rows of keys put in and taken out, at each number of nodes, as chance would have it; at last all are taken out.
func TestTheoremOfRows(t *testing.T) {
	next := draw(77)
	for n := 1; n <= 64; n += 7 {
		for range 4 {
			min := next() >> (next() & 63)
			x, _ := New(n)
			var l []api.Key
			for range 600 {
				k := api.Key{V: min + next()>>(next()&63) - next()>>(next()&63), Id: int(next() % uint64(n))}
				if next()%4 == 0 && len(l) > 0 {
					k.V = l[0].V
				}
				at := slices.IndexFunc(l, func(y api.Key) bool { return y.Id == k.Id })
				inserted, deleted := checkInsert(t, x, min, k), checkDelete(t, x, min, k.Id)
				if at < 0 {
					x, l = inserted, append(l, k)
				} else {
					x, l = deleted, slices.Delete(l, at, at+1)
				}
				checkRight(t, x, min, l)
			}
			takeAll(t, x, min, l)
		}
	}
}

// FuzzTree holds all promises against the words of the chapter, of trees that keys were put into and taken out of, and of these with a part that is another one.
func FuzzTree(f *testing.F) {
	f.Add(uint64(0), uint8(9), []byte{1, 2, 3, 4, 5, 6, 7, 8, 0, 3, 5, 1}, uint64(5), 3)
	f.Add(top, uint8(64), []byte{60, 50, 40, 30, 20, 10, 0, 5, 15, 25, 35, 45, 55, 63, 60, 10, 30}, uint64(1<<63), math.MinInt)
	f.Add(uint64(1<<63), uint8(3), []byte{0, 1, 2, 3, 0, 1, 2}, top, math.MaxInt)
	f.Fuzz(func(t *testing.T, min uint64, n uint8, row []byte, v uint64, id int) {
		x, errno := New(int(n))
		if errno != api.OK {
			return
		}
		next := draw(v)
		for _, b := range row {
			if k := (api.Key{V: v + next()>>(next()&63), Id: int(b)}); int(b) < len(x.Nodes) && x.Nodes[b].In {
				x = checkDelete(t, x, min, int(b))
			} else if y := checkInsert(t, x, min, k); len(y.Nodes) > 0 {
				x = y
			}
			checkRight(t, x, min, wantWalk(x))
		}
		checkInsert(t, x, min, api.Key{V: v, Id: id})
		checkDelete(t, x, min, id)
		checkRead(t, x, v)
		if n == 0 {
			return
		}
		for _, y := range harms(x, int(v%uint64(n))) {
			checkRead(t, y, min)
			checkInsert(t, y, min, api.Key{V: v, Id: id})
			checkDelete(t, y, min, id)
		}
	})
}
