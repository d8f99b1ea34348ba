package tree

import (
	"turnspit/api"
	"turnspit/key"
)

// none stands for no node.
const none = -1

// tree is an api.Tree, which as one of package api can't have methods.
type tree api.Tree

// empty tells a node that is not In.
func empty() api.Node { return api.Node{Left: none, Right: none, Up: none} }

// has tells whether id is a node's number.
func (t *tree) has(id int) bool { return id >= 0 && id < len(t.Nodes) }

// red tells whether there is a node id, and it is Red: where none is, nothing is Red.
func (t *tree) red(id int) bool { return id != none && t.Nodes[id].Red }

// key tells the node id's key.
func (t *tree) key(id int) api.Key { return api.Key{V: t.Nodes[id].V, Id: id} }

// leftOf tells where it stands which the left child of the node id is.
func (t *tree) leftOf(id int) *int { return &t.Nodes[id].Left }

// rightOf tells where it stands which the right child of the node id is.
func (t *tree) rightOf(id int) *int { return &t.Nodes[id].Right }

// whole tells whether t is whole. Nothing below may be asked of a tree that is not.
func (t *tree) whole() bool {
	if len(t.Nodes) > api.MaxTasks {
		return false
	}
	var met [api.MaxTasks]bool
	if !t.meet(t.Root, none, &met) {
		return false
	}
	for id, n := range t.Nodes {
		// An empty node may not be met either: a root that is empty has nothing wrong about it but that.
		if n.In != met[id] || !n.In && n != empty() {
			return false
		}
	}
	return true
}

// meet notes all that are come by from id on, which is come by from up; false, if one is no node's number, is met again, or has another Up.
func (t *tree) meet(id, up int, met *[api.MaxTasks]bool) bool {
	if id == none {
		return true
	}
	if !t.has(id) || met[id] || t.Nodes[id].Up != up {
		return false
	}
	met[id] = true
	return t.meet(t.Nodes[id].Left, id, met) && t.meet(t.Nodes[id].Right, id, met)
}

// rightBy tells whether t is right by min.
func (t *tree) rightBy(min uint64) bool {
	if !t.whole() || t.red(t.Root) || !key.Sorted(min, t.walk(t.Root, nil)) {
		return false
	}
	_, ok := t.plain(t.Root)
	return ok
}

// plain tells how many nodes that are not Red are on each way from id to where a child lacks, and true; false, if that is not the same on all of them, or a Red node has a Red child.
func (t *tree) plain(id int) (int, bool) {
	if id == none {
		return 0, true
	}
	n := t.Nodes[id]
	here, ok := t.plain(n.Left)
	there, likewise := t.plain(n.Right)
	if !ok || !likewise || here != there {
		return 0, false
	}
	if n.Red {
		return here, !t.red(n.Left) && !t.red(n.Right)
	}
	return here + 1, true
}

// walk tells l, and behind it the keys of all that are come by from id on.
func (t *tree) walk(id int, l []api.Key) []api.Key {
	if id == none {
		return l
	}
	l = t.walk(t.Nodes[id].Left, l)
	return t.walk(t.Nodes[id].Right, append(l, t.key(id)))
}

// height tells how many nodes are on the longest way from id on.
func (t *tree) height(id int) int {
	if id == none {
		return 0
	}
	return 1 + max(t.height(t.Nodes[id].Left), t.height(t.Nodes[id].Right))
}
