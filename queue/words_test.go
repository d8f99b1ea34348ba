package queue

import (
	"cmp"
	"slices"

	"turnspit/api"
	"turnspit/tree"
)

// The chapter's words, told once more and in another way than the package tells them: lags are told by how far above the least one they are, who is here by a weight, the first one by sorting all, Delta by numbers that 64 bits hold; trees alone are left to layer 9.

// told is what a call tells.
type told struct {
	q     api.Queue
	n     int
	yes   bool
	errno api.Errno
}

// equal tells whether two calls tell the same.
func (a told) equal(b told) bool {
	return sameQueue(a.q, b.q) && a.n == b.n && a.yes == b.yes && a.errno == b.errno
}

// sameQueue tells whether two queues are the same.
func sameQueue(a, b api.Queue) bool {
	return a.Tree.Root == b.Tree.Root && slices.Equal(a.Tree.Nodes, b.Tree.Nodes) && a.Cur == b.Cur && a.V == b.V && a.Min == b.Min && a.Load == b.Load && slices.Equal(a.Weights, b.Weights)
}

// cloned tells q, in memory of its own.
func cloned(q api.Queue) api.Queue {
	q.Tree.Nodes, q.Weights = slices.Clone(q.Tree.Nodes), slices.Clone(q.Weights)
	return q
}

// loaded tells q with the sum of its Weights as Load.
func loaded(q api.Queue) api.Queue {
	q.Load = 0
	for _, w := range q.Weights {
		q.Load += w
	}
	return q
}

// wantRight tells the word 'right'.
func wantRight(q api.Queue) bool {
	if !tree.Right(q.Tree, q.Min) || len(q.Weights) != len(q.Tree.Nodes) {
		return false
	}
	here := map[int]uint64{}
	for id, n := range q.Tree.Nodes {
		if n.In {
			here[id] = n.V
		}
	}
	if _, in := here[q.Cur]; in || q.Cur < -1 || q.Cur >= len(q.Weights) || q.Cur == -1 && q.V != 0 {
		return false
	}
	if q.Cur >= 0 {
		here[q.Cur] = q.V
	}
	for id, w := range q.Weights {
		v, ok := here[id]
		if ok && (w < 1 || w > 88761 || v-(q.Min-1<<50) > 1<<51) || !ok && w != 0 {
			return false
		}
	}
	return loaded(q).Load == q.Load
}

// wantKeys tells what M1 asks of Keys, of a queue that is right.
func wantKeys(q api.Queue) []api.Key {
	var l []api.Key
	for id, w := range q.Weights {
		switch {
		case id == q.Cur:
			l = append(l, api.Key{V: q.V, Id: id})
		case w > 0:
			l = append(l, api.Key{V: q.Tree.Nodes[id].V, Id: id})
		}
	}
	// They rise by their Ids so far.
	slices.SortStableFunc(l, func(a, b api.Key) int { return cmp.Compare(a.V-(q.Min-1<<50), b.V-(q.Min-1<<50)) })
	return l
}

// wantMin tells q with Min brought up.
func wantMin(q api.Queue) api.Queue {
	if l := wantKeys(q); len(l) > 0 && l[0].V-q.Min <= 1<<50 {
		q.Min = l[0].V
	}
	return q
}

// isNone tells whether id is no task's number.
func isNone(q api.Queue, id int) bool { return id < 0 || id >= len(q.Weights) }

// wantNew tells what M1 asks of New.
func wantNew(n int, min uint64) told {
	if n < 0 || n > 64 {
		return told{errno: api.ErrArg}
	}
	bare := api.Node{Left: -1, Right: -1, Up: -1}
	return told{q: api.Queue{Tree: api.Tree{Root: -1, Nodes: slices.Repeat([]api.Node{bare}, n)}, Cur: -1, Min: min, Weights: slices.Repeat([]int{0}, n)}}
}

// wantEnter tells what M2 asks.
func wantEnter(q api.Queue, id, weight, lag int) told {
	switch {
	case !wantRight(q):
		return told{errno: api.ErrOrder}
	case isNone(q, id), weight < 1, weight > 88761:
		return told{errno: api.ErrArg}
	case q.Weights[id] > 0:
		return told{errno: api.ErrBusy}
	}
	x := cloned(q)
	x.Weights[id] = weight
	x.Tree, _ = tree.Insert(q.Tree, q.Min, api.Key{V: q.Min + uint64(min(max(lag, -1<<20), 1<<50)), Id: id})
	return told{q: loaded(x)}
}

// wantLeave tells what M3 asks.
func wantLeave(q api.Queue, id int) told {
	switch {
	case !wantRight(q):
		return told{errno: api.ErrOrder}
	case isNone(q, id):
		return told{errno: api.ErrArg}
	case q.Weights[id] == 0:
		return told{errno: api.ErrIdle}
	}
	l := wantKeys(q)
	k := l[slices.IndexFunc(l, func(k api.Key) bool { return k.Id == id })]
	x := cloned(q)
	x.Weights[id] = 0
	if id == q.Cur {
		x.Cur, x.V = -1, 0
	} else {
		x.Tree, _ = tree.Delete(q.Tree, q.Min, id)
	}
	return told{q: loaded(x), n: int(k.V-(q.Min-1<<50)) - 1<<50}
}

// wantPut tells what M4 asks of Put.
func wantPut(q api.Queue) told {
	switch {
	case !wantRight(q):
		return told{errno: api.ErrOrder}
	case q.Cur == -1:
		return told{errno: api.ErrIdle}
	}
	x := cloned(q)
	x.Tree, _ = tree.Insert(q.Tree, q.Min, api.Key{V: q.V, Id: q.Cur})
	x.Cur, x.V = -1, 0
	return told{q: x, n: q.Cur}
}

// wantPick tells what M4 asks of Pick.
func wantPick(q api.Queue) told {
	switch {
	case !wantRight(q):
		return told{errno: api.ErrOrder}
	case q.Load == 0:
		return told{errno: api.ErrIdle}
	}
	x := cloned(q)
	if q.Cur != -1 {
		x = wantPut(q).q
	}
	first := wantKeys(q)[0]
	x.Tree, _ = tree.Delete(x.Tree, q.Min, first.Id)
	x.Cur, x.V = first.Id, first.V
	return told{q: wantMin(x), n: first.Id}
}

// wantTick tells what M5 asks.
func wantTick(q api.Queue, d int) told {
	switch {
	case !wantRight(q):
		return told{errno: api.ErrOrder}
	case d < 0, d > 1<<40:
		return told{errno: api.ErrArg}
	case q.Cur == -1:
		return told{errno: api.ErrIdle}
	}
	step := min(1024*d/q.Weights[q.Cur], 1<<48)
	room := int(q.Min + 1<<50 - q.V)
	x := cloned(q)
	x.V += uint64(min(step, room))
	x = wantMin(x)
	return told{q: x, yes: wantKeys(x)[0].Id != x.Cur}
}

// wantWeigh tells what M6 asks.
func wantWeigh(q api.Queue, id, weight int) told {
	switch {
	case !wantRight(q):
		return told{errno: api.ErrOrder}
	case isNone(q, id), weight < 1, weight > 88761:
		return told{errno: api.ErrArg}
	case q.Weights[id] == 0:
		return told{errno: api.ErrIdle}
	}
	x := cloned(q)
	x.Weights[id] = weight
	return told{q: loaded(x)}
}
