package tree

import (
	"slices"

	"turnspit/api"
)

// The chapter's words, told once more and in another way than the package tells them: what is to hold of a tree by its Ups, what is done to it by pointers, with left and right written out.

// rank tells how far v's lag by min is above -2^63, the least one.
func rank(v, min uint64) uint64 { return v - min + 1<<63 }

// wantLess tells the word 'less' of layer 8.
func wantLess(min uint64, a, b api.Key) bool {
	return rank(a.V, min) < rank(b.V, min) || a.V == b.V && a.Id < b.Id
}

// ties tells all links of t: the Root, and each Left and Right of a node that is In, with the node that it is of.
func ties(t api.Tree) [][2]int {
	l := [][2]int{{-1, t.Root}}
	for i, n := range t.Nodes {
		if n.In {
			l = append(l, [2]int{i, n.Left}, [2]int{i, n.Right})
		}
	}
	return l
}

// wayUp tells the nodes from id on by Up; false, if that is not the root's way.
func wayUp(t api.Tree, id int) ([]int, bool) {
	l := []int{id}
	for range t.Nodes {
		if id == t.Root {
			return l, true
		}
		id = t.Nodes[id].Up
		if id < 0 || id >= len(t.Nodes) {
			return nil, false
		}
		l = append(l, id)
	}
	return nil, false
}

// wantWhole tells the word 'whole': each node that is In is at the end of just one link, by which it is come by from its Up, and its way up comes to the root.
func wantWhole(t api.Tree) bool {
	if len(t.Nodes) > 64 {
		return false
	}
	count := make([]int, len(t.Nodes))
	for _, tie := range ties(t) {
		up, id := tie[0], tie[1]
		if id == -1 {
			continue
		}
		if id < 0 || id >= len(t.Nodes) || !t.Nodes[id].In || t.Nodes[id].Up != up {
			return false
		}
		count[id]++
	}
	for i, n := range t.Nodes {
		if !n.In && (n.Red || n.V != 0 || n.Left != -1 || n.Right != -1 || n.Up != -1) {
			return false
		}
		if !n.In {
			continue
		}
		if _, ok := wayUp(t, i); !ok || count[i] != 1 {
			return false
		}
	}
	return true
}

// wantWalk tells the word 'walk', of a tree that is whole, from one node to the one behind it.
func wantWalk(t api.Tree) []api.Key {
	var l []api.Key
	id := t.Root
	for id != -1 && t.Nodes[id].Left != -1 {
		id = t.Nodes[id].Left
	}
	for id != -1 {
		l = append(l, api.Key{V: t.Nodes[id].V, Id: id})
		if t.Nodes[id].Right == -1 {
			for t.Nodes[id].Up != -1 && t.Nodes[t.Nodes[id].Up].Right == id {
				id = t.Nodes[id].Up
			}
			id = t.Nodes[id].Up
			continue
		}
		id = t.Nodes[id].Right
		for t.Nodes[id].Left != -1 {
			id = t.Nodes[id].Left
		}
	}
	return l
}

// wantHeight tells the longest way up, of a tree that is whole.
func wantHeight(t api.Tree) int {
	n := 0
	for i := range t.Nodes {
		if t.Nodes[i].In {
			way, _ := wayUp(t, i)
			n = max(n, len(way))
		}
	}
	return n
}

// wantRight tells the word 'right', by each way for itself.
func wantRight(t api.Tree, min uint64) bool {
	if !wantWhole(t) {
		return false
	}
	l := wantWalk(t)
	for i := range l {
		if i > 0 && !wantLess(min, l[i-1], l[i]) {
			return false
		}
	}
	var counts []int
	for i, n := range t.Nodes {
		if !n.In {
			continue
		}
		if n.Red && (n.Up == -1 || t.Nodes[n.Up].Red) {
			return false
		}
		way, _ := wayUp(t, i)
		way = slices.DeleteFunc(way, func(id int) bool { return t.Nodes[id].Red })
		if n.Left == -1 || n.Right == -1 {
			counts = append(counts, len(way))
		}
	}
	return len(slices.Compact(counts)) <= 1
}

// knot is a node, by pointers.
type knot struct {
	id              int
	v               uint64
	red             bool
	left, right, up *knot
}

// plant is a tree of knots.
type plant struct{ root *knot }

// planted tells the plant of a tree that is whole.
func planted(t api.Tree) *plant {
	var from func(id int, up *knot) *knot
	from = func(id int, up *knot) *knot {
		if id == -1 {
			return nil
		}
		n := t.Nodes[id]
		k := &knot{id: id, v: n.V, red: n.Red, up: up}
		k.left, k.right = from(n.Left, k), from(n.Right, k)
		return k
	}
	return &plant{from(t.Root, nil)}
}

// number tells a knot's id, -1 of none.
func (k *knot) number() int {
	if k == nil {
		return -1
	}
	return k.id
}

// isRed tells whether there is a knot, and it is red.
func (k *knot) isRed() bool { return k != nil && k.red }

// told tells the tree of a plant, with n nodes.
func (p *plant) told(n int) api.Tree {
	t := api.Tree{Root: p.root.number(), Nodes: slices.Repeat([]api.Node{{Left: -1, Right: -1, Up: -1}}, n)}
	var tell func(k *knot)
	tell = func(k *knot) {
		if k != nil {
			t.Nodes[k.id] = api.Node{In: true, Red: k.red, V: k.v, Left: k.left.number(), Right: k.right.number(), Up: k.up.number()}
			tell(k.left)
			tell(k.right)
		}
	}
	tell(p.root)
	return t
}

// give makes b, or none, stand where a stands.
func (p *plant) give(a, b *knot) {
	switch {
	case a.up == nil:
		p.root = b
	case a.up.left == a:
		a.up.left = b
	default:
		a.up.right = b
	}
	if b != nil {
		b.up = a.up
	}
}

// turnLeft is 'turned left'.
func (p *plant) turnLeft(k *knot) {
	c := k.right
	p.give(k, c)
	k.right = c.left
	if k.right != nil {
		k.right.up = k
	}
	c.left, k.up = k, c
}

// turnRight is 'turned right'.
func (p *plant) turnRight(k *knot) {
	c := k.left
	p.give(k, c)
	k.left = c.right
	if k.left != nil {
		k.left.up = k
	}
	c.right, k.up = k, c
}

// insert is 'to insert'.
func (p *plant) insert(min uint64, key api.Key) {
	x := &knot{id: key.Id, v: key.V, red: true}
	for at := p.root; at != nil; {
		x.up = at
		if wantLess(min, key, api.Key{V: at.v, Id: at.id}) {
			at = at.left
		} else {
			at = at.right
		}
	}
	switch {
	case x.up == nil:
		p.root = x
	case wantLess(min, key, api.Key{V: x.up.v, Id: x.up.id}):
		x.up.left = x
	default:
		x.up.right = x
	}
	for x.up.isRed() {
		x = p.mendOnce(x)
	}
	p.root.red = false
}

// mendOnce is one round of 'then it is mended'; it tells the next x.
func (p *plant) mendOnce(x *knot) *knot {
	up := x.up
	g := up.up
	u := g.left
	if u == up {
		u = g.right
	}
	if u.isRed() {
		up.red, u.red, g.red = false, false, true
		return g
	}
	if x == up.right && up == g.left {
		p.turnLeft(up)
		x, up = up, x
	} else if x == up.left && up == g.right {
		p.turnRight(up)
		x, up = up, x
	}
	up.red, g.red = false, true
	if up == g.left {
		p.turnRight(g)
	} else {
		p.turnLeft(g)
	}
	return x
}

// find tells the knot of a number that is in the plant.
func (p *plant) find(id int) *knot {
	rest := []*knot{p.root}
	for len(rest) > 0 {
		k := rest[0]
		rest = rest[1:]
		if k == nil {
			continue
		}
		if k.id == id {
			return k
		}
		rest = append(rest, k.left, k.right)
	}
	return nil
}

// remove is 'to delete'. The place is held by a knot of its own, where no node stands at it.
func (p *plant) remove(id int) {
	z := p.find(id)
	y := z
	if z.left != nil && z.right != nil {
		for y = z.right; y.left != nil; y = y.left {
		}
	}
	child := y.right
	if y == z && child == nil {
		child = z.left
	}
	if child == nil {
		child = &knot{id: -1}
	}
	p.give(y, child)
	goes := y.red
	if y != z {
		p.give(z, y)
		y.red, y.left, y.right = z.red, z.left, z.right
		y.left.up, y.right.up = y, y
	}
	if !goes {
		p.fill(child)
	}
	if child.id == -1 {
		p.give(child, nil)
	}
}

// fill is 'the place is filled', x being what stands at it.
func (p *plant) fill(x *knot) {
	for x != p.root && !x.red {
		up := x.up
		if x == up.left {
			if p.fillLeft(up) {
				return
			}
		} else if p.fillRight(up) {
			return
		}
		x = up
	}
	x.red = false
}

// fillLeft is one round of it, the place being up's left one; it tells whether nothing more is to be done.
func (p *plant) fillLeft(up *knot) bool {
	w := up.right
	if w.red {
		w.red, up.red = false, true
		p.turnLeft(up)
		w = up.right
	}
	if !w.left.isRed() && !w.right.isRed() {
		w.red = true
		return false
	}
	if !w.right.isRed() {
		w.left.red, w.red = false, true
		p.turnRight(w)
		w = up.right
	}
	w.red, up.red, w.right.red = up.red, false, false
	p.turnLeft(up)
	return true
}

// fillRight is the other way round.
func (p *plant) fillRight(up *knot) bool {
	w := up.left
	if w.red {
		w.red, up.red = false, true
		p.turnRight(up)
		w = up.left
	}
	if !w.right.isRed() && !w.left.isRed() {
		w.red = true
		return false
	}
	if !w.left.isRed() {
		w.right.red, w.red = false, true
		p.turnLeft(w)
		w = up.left
	}
	w.red, up.red, w.left.red = up.red, false, false
	p.turnRight(up)
	return true
}

// wantInsert tells what J2 asks.
func wantInsert(t api.Tree, min uint64, k api.Key) (api.Tree, api.Errno) {
	if !wantRight(t, min) {
		return api.Tree{}, api.ErrOrder
	}
	if k.Id < 0 || k.Id >= len(t.Nodes) || t.Nodes[k.Id].In {
		return api.Tree{}, api.ErrArg
	}
	p := planted(t)
	p.insert(min, k)
	return p.told(len(t.Nodes)), api.OK
}

// wantDelete tells what J3 asks.
func wantDelete(t api.Tree, min uint64, id int) (api.Tree, api.Errno) {
	if !wantRight(t, min) {
		return api.Tree{}, api.ErrOrder
	}
	if id < 0 || id >= len(t.Nodes) {
		return api.Tree{}, api.ErrArg
	}
	if !t.Nodes[id].In {
		return api.Tree{}, api.ErrIdle
	}
	p := planted(t)
	p.remove(id)
	return p.told(len(t.Nodes)), api.OK
}
