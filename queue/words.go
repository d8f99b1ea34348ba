package queue

import (
	"slices"

	"turnspit/api"
	"turnspit/key"
	"turnspit/tree"
	"turnspit/turn"
	"turnspit/weight"
)

// none stands for nobody.
const none = -1

// isTask tells whether id is a task's number.
func isTask(q api.Queue, id int) bool { return id >= 0 && id < len(q.Tree.Nodes) }

// isHere tells whether the task id is in the tree, or runs.
func isHere(q api.Queue, id int) bool { return id == q.Cur || q.Tree.Nodes[id].In }

// isWeight tells whether a task may weigh w: no more than who is the least nice.
func isWeight(w int) bool {
	most, _ := weight.Of(api.MinNice)
	return turn.Clamp(w, 1, most) == w
}

// curRight tells whether somebody runs who is not in the tree too, or nobody does.
func curRight(q api.Queue) bool {
	if q.Cur == none {
		return q.V == 0
	}
	return isTask(q, q.Cur) && !q.Tree.Nodes[q.Cur].In
}

// weightsRight tells whether all that are here, and they alone, have weights, of which Load is the sum.
func weightsRight(q api.Queue) bool {
	if len(q.Weights) != len(q.Tree.Nodes) {
		return false
	}
	sum := 0
	for id, w := range q.Weights {
		if isHere(q, id) && !isWeight(w) || !isHere(q, id) && w != 0 {
			return false
		}
		sum += w
	}
	return sum == q.Load
}

// lagsRight tells whether nobody is farther than MaxLag from Min.
func lagsRight(q api.Queue) bool {
	for _, k := range all(q) {
		lag := turn.Lag(k.V, q.Min)
		if turn.Clamp(lag, -api.MaxLag, api.MaxLag) != lag {
			return false
		}
	}
	return true
}

// running tells the key of who runs.
func running(q api.Queue) api.Key { return api.Key{V: q.V, Id: q.Cur} }

// all tells the keys of all that are here.
func all(q api.Queue) []api.Key {
	l := tree.Walk(q.Tree)
	if q.Cur != none {
		l = append(l, running(q))
	}
	return l
}

// own tells q in memory of its own, that may be written into.
func own(q api.Queue) api.Queue {
	q.Tree.Nodes, q.Weights = slices.Clone(q.Tree.Nodes), slices.Clone(q.Weights)
	return q
}

// weighed tells q, that is its own, with w as id's weight.
func weighed(q api.Queue, id, w int) api.Queue {
	q.Load += w - q.Weights[id]
	q.Weights[id] = w
	return q
}

// inserted tells q with k in the tree.
func inserted(q api.Queue, k api.Key) api.Queue {
	q.Tree, _ = tree.Insert(q.Tree, q.Min, k)
	return q
}

// deleted tells q without id in the tree.
func deleted(q api.Queue, id int) api.Queue {
	q.Tree, _ = tree.Delete(q.Tree, q.Min, id)
	return q
}

// stopped tells q with nobody who runs.
func stopped(q api.Queue) api.Queue {
	q.Cur, q.V = none, 0
	return q
}

// putBack tells q with who runs in the tree.
func putBack(q api.Queue) api.Queue { return stopped(inserted(q, running(q))) }

// broughtUp tells q with Min brought up to the time of the first one of all that are here, if that is later.
func broughtUp(q api.Queue) api.Queue {
	if first, ok := key.First(q.Min, all(q)); ok {
		q.Min = turn.Later(q.Min, first.V)
	}
	return q
}
