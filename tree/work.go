package tree

import (
	"slices"

	"turnspit/api"
	"turnspit/key"
)

// The sides of a node, by which a work's sides are counted.
const (
	left  = 0
	right = 1
)

// work is a tree at work. What is done on the left is done on the right as well, the other way round, so that it is written once, by sides.
type work struct {
	tree
	sides [2]func(id int) *int
}

// place is where a node may stand: on a side of the node up, or the root's place, if up is none.
type place struct{ up, side int }

// begin tells a work on a copy of t, which is not written into.
func begin(t tree) *work {
	w := &work{tree: tree{Root: t.Root, Nodes: slices.Clone(t.Nodes)}}
	w.sides = [2]func(id int) *int{left: w.leftOf, right: w.rightOf}
	return w
}

// other tells the other side.
func other(side int) int { return right - side }

// child tells the node that is id's child on a side.
func (w *work) child(id, side int) int { return *w.sides[side](id) }

// placeOf tells where the node id stands.
func (w *work) placeOf(id int) place {
	up := w.Nodes[id].Up
	if up != none && w.child(up, right) == id {
		return place{up, right}
	}
	return place{up, left}
}

// at tells the node that stands at a place.
func (w *work) at(p place) int {
	if p.up == none {
		return w.Root
	}
	return w.child(p.up, p.side)
}

// hang makes id, a node or none, stand at a place.
func (w *work) hang(p place, id int) {
	if p.up == none {
		w.Root = id
	} else {
		*w.sides[p.side](p.up) = id
	}
	if id != none {
		w.Nodes[id].Up = p.up
	}
}

// turn turns the node id to a side.
func (w *work) turn(id, side int) {
	here := w.placeOf(id)
	riser := w.child(id, other(side))
	w.hang(place{id, other(side)}, w.child(riser, side))
	w.hang(here, riser)
	w.hang(place{riser, side}, id)
}

// insert makes k's node stand where it is to, and mends the tree.
func (w *work) insert(min uint64, k api.Key) {
	here := place{none, left}
	for id := w.at(here); id != none; id = w.at(here) {
		here = place{id, right}
		if key.Less(min, k, w.key(id)) {
			here.side = left
		}
	}
	w.Nodes[k.Id] = api.Node{In: true, Red: true, V: k.V, Left: none, Right: none}
	w.hang(here, k.Id)
	w.mend(k.Id)
}

// mend mends the tree, x being Red, and maybe its parent too.
func (w *work) mend(x int) {
	for w.red(w.Nodes[x].Up) {
		p := w.Nodes[x].Up
		here := w.placeOf(p)
		g, side := here.up, here.side // p is Red, so that it is not the root
		if u := w.child(g, other(side)); w.red(u) {
			w.Nodes[p].Red, w.Nodes[u].Red, w.Nodes[g].Red = false, false, true
			x = g
			continue
		}
		if w.child(p, other(side)) == x {
			w.turn(p, side)
			x, p = p, x
		}
		w.Nodes[p].Red, w.Nodes[g].Red = false, true
		w.turn(g, other(side))
	}
	w.Nodes[w.Root].Red = false
}

// remove takes the node z out, and fills its place, or that of the one which took it.
func (w *work) remove(z int) {
	gone, hole := w.Nodes[z].Red, w.placeOf(z)
	switch {
	case w.child(z, left) == none:
		w.hang(hole, w.child(z, right))
	case w.child(z, right) == none:
		w.hang(hole, w.child(z, left))
	default:
		gone, hole = w.replace(z)
	}
	w.Nodes[z] = empty()
	if !gone {
		w.fill(hole)
	}
}

// replace makes the one behind z, which has two children, take z's place and color; it tells whether that one was Red, and the place that it left.
func (w *work) replace(z int) (bool, place) {
	y := w.child(z, right)
	for w.child(y, left) != none {
		y = w.child(y, left)
	}
	gone, hole := w.Nodes[y].Red, w.placeOf(y)
	w.hang(hole, w.child(y, right))
	w.hang(w.placeOf(z), y)
	w.hang(place{y, left}, w.child(z, left))
	w.hang(place{y, right}, w.child(z, right))
	w.Nodes[y].Red = w.Nodes[z].Red
	if hole.up == z { // y was z's own child: what was z's side is y's now
		hole.up = y
	}
	return gone, hole
}

// fill fills a place. The ways through it have one too few that are not Red; those past it have that one, so that p always has another child.
func (w *work) fill(hole place) {
	for hole.up != none && !w.red(w.at(hole)) {
		p, near, far := hole.up, hole.side, other(hole.side)
		v := w.child(p, far)
		if w.red(v) {
			w.Nodes[v].Red, w.Nodes[p].Red = false, true
			w.turn(p, near)
			v = w.child(p, far)
		}
		if w.red(w.child(v, left)) || w.red(w.child(v, right)) {
			w.settle(p, near)
			return
		}
		w.Nodes[v].Red = true
		hole = w.placeOf(p)
	}
	if id := w.at(hole); id != none {
		w.Nodes[id].Red = false
	}
}

// settle fills the place on the near side of p for good, by a Red child of the node on the other side.
func (w *work) settle(p, near int) {
	far := other(near)
	v := w.child(p, far)
	if !w.red(w.child(v, far)) {
		w.Nodes[w.child(v, near)].Red, w.Nodes[v].Red = false, true
		w.turn(v, far)
		v = w.child(p, far)
	}
	w.Nodes[v].Red = w.Nodes[p].Red
	w.Nodes[p].Red, w.Nodes[w.child(v, far)].Red = false, false
	w.turn(p, near)
}
