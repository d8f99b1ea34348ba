package queue

import (
	"math"
	"slices"
	"testing"

	"turnspit/api"
	"turnspit/tree"
)

const top uint64 = 1<<64 - 1

// bare is an empty node.
var bare = api.Node{Left: -1, Right: -1, Up: -1}

// mins are least times at their edges: where times, or lags, go round too.
func mins() []uint64 {
	return []uint64{0, 1, 1<<20 - 1, 1 << 20, 1<<50 - 1, 1 << 50, 1<<63 - 1, 1 << 63, 1<<63 + 1<<50, top - 1<<50, top - 1<<20, top - 2, top}
}

// strays are numbers that are no task's, of n.
func strays(n int) []int {
	return []int{math.MinInt, -1 << 32, -64, -2, -1, n, n + 1, n + 64, 1 << 32, math.MaxInt}
}

// guarded tells q with other nodes and weights behind their lengths, and a function that says whether all of these are as they were.
func guarded(q api.Queue) (api.Queue, func() bool) {
	nodes := append(slices.Clone(q.Tree.Nodes), bare, api.Node{In: true, V: 77, Left: -1, Right: -1, Up: -1}, api.Node{Red: true, V: 78, Left: 1, Right: 2, Up: 3})
	weights := append(slices.Clone(q.Weights), 0, 1024, -7)
	was, were := slices.Clone(nodes), slices.Clone(weights)
	q.Tree.Nodes, q.Weights = nodes[:len(q.Tree.Nodes)], weights[:len(q.Weights)]
	return q, func() bool { return slices.Equal(nodes, was) && slices.Equal(weights, were) }
}

// spoil writes over all of q's lists, and what stands behind their lengths.
func spoil(q api.Queue) {
	nodes, weights := q.Tree.Nodes[:cap(q.Tree.Nodes)], q.Weights[:cap(q.Weights)]
	for i := range nodes {
		nodes[i] = api.Node{In: true, Red: true, V: 4711, Left: 47, Right: 11, Up: 4711}
	}
	for i := range weights {
		weights[i] = 4711
	}
}

// draw tells a row of numbers that looks like chance, and is the same each time.
func draw(seed uint64) func() uint64 {
	x := seed
	return func() uint64 {
		x += 0x9e3779b97f4a7c15
		z := x
		z = (z ^ z>>30) * 0xbf58476d1ce4e5b9
		z = (z ^ z>>27) * 0x94d049bb133111eb
		return z ^ z>>31
	}
}

// check holds that call, of q, tells want, and that q is not written into, also not by who writes into what is told.
func check(t *testing.T, name string, q api.Queue, want told, call func(q api.Queue) told) {
	t.Helper()
	in, kept := guarded(q)
	got := call(in)
	if !got.equal(want) {
		t.Fatalf("%s of %v: %v; want %v", name, q, got, want)
	}
	if !kept() {
		t.Fatalf("%s of %v wrote into it", name, q)
	}
	spoil(got.q)
	if !kept() {
		t.Fatalf("%s of %v tells a part of it", name, q)
	}
	if again := call(q); !again.equal(want) {
		t.Fatalf("%s of %v: %v at another time; want %v", name, q, again, want)
	}
}

func entered(q api.Queue, id, weight, lag int) told {
	x, errno := Enter(q, id, weight, lag)
	return told{q: x, errno: errno}
}

func left(q api.Queue, id int) told {
	x, lag, errno := Leave(q, id)
	return told{q: x, n: lag, errno: errno}
}

func put(q api.Queue) told {
	x, id, errno := Put(q)
	return told{q: x, n: id, errno: errno}
}

func picked(q api.Queue) told {
	x, id, errno := Pick(q)
	return told{q: x, n: id, errno: errno}
}

func ticked(q api.Queue, d int) told {
	x, more, errno := Tick(q, d)
	return told{q: x, yes: more, errno: errno}
}

func weighedAs(q api.Queue, id, weight int) told {
	x, errno := Weigh(q, id, weight)
	return told{q: x, errno: errno}
}

// checkEnter holds M2.
func checkEnter(t *testing.T, q api.Queue, id, weight, lag int) {
	t.Helper()
	check(t, "Enter", q, wantEnter(q, id, weight, lag), func(q api.Queue) told { return entered(q, id, weight, lag) })
}

// checkLeave holds M3.
func checkLeave(t *testing.T, q api.Queue, id int) {
	t.Helper()
	check(t, "Leave", q, wantLeave(q, id), func(q api.Queue) told { return left(q, id) })
}

// checkTick holds M5.
func checkTick(t *testing.T, q api.Queue, d int) {
	t.Helper()
	check(t, "Tick", q, wantTick(q, d), func(q api.Queue) told { return ticked(q, d) })
}

// checkWeigh holds M6.
func checkWeigh(t *testing.T, q api.Queue, id, weight int) {
	t.Helper()
	check(t, "Weigh", q, wantWeigh(q, id, weight), func(q api.Queue) told { return weighedAs(q, id, weight) })
}

// checkOrder holds M4.
func checkOrder(t *testing.T, q api.Queue) {
	t.Helper()
	check(t, "Put", q, wantPut(q), put)
	check(t, "Pick", q, wantPick(q), picked)
}

// checkRead holds M1's Right and Keys.
func checkRead(t *testing.T, q api.Queue) {
	t.Helper()
	in, kept := guarded(q)
	right := wantRight(q)
	if Right(in) != right {
		t.Fatalf("Right(%v): %t", q, !right)
	}
	var want []api.Key
	if right {
		want = wantKeys(q)
	}
	got := Keys(in)
	if !slices.Equal(got, want) {
		t.Fatalf("Keys(%v): %v; want %v", q, got, want)
	}
	got = got[:cap(got)]
	for i := range got {
		got[i] = api.Key{V: 4711, Id: 4711}
	}
	if !kept() {
		t.Fatalf("Right or Keys of %v wrote into it", q)
	}
}

// checkTask holds M2, M3 and M6 of one number, at ordinary arguments and at the edges.
func checkTask(t *testing.T, q api.Queue, id int) {
	t.Helper()
	checkLeave(t, q, id)
	for _, w := range []int{math.MinInt, -1, 0, 1, 15, 1024, 88761, 88762, math.MaxInt} {
		checkEnter(t, q, id, w, 0)
		checkWeigh(t, q, id, w)
	}
	for _, lag := range []int{math.MinInt, -1<<50 - 1, -1 << 50, -1<<20 - 1, -1 << 20, 1 - 1<<20, -1, 1, 1000, 1<<50 - 1, 1 << 50, 1<<50 + 1, 1 << 62, math.MaxInt} {
		checkEnter(t, q, id, 1024, lag)
	}
}

// checkAll holds M1 to M6 of one queue: of all its numbers, or of some, if there are many.
func checkAll(t *testing.T, q api.Queue) {
	t.Helper()
	checkRead(t, q)
	checkOrder(t, q)
	for _, d := range []int{math.MinInt, -1, 0, 1, 2, 1000, 1 << 30, 1<<40 - 1, 1 << 40, 1<<40 + 1, math.MaxInt} {
		checkTick(t, q, d)
	}
	n := len(q.Tree.Nodes)
	for id := -1; id < n; id += 1 + n/12 {
		checkTask(t, q, id)
	}
	checkTask(t, q, n)
}

// mate is one that is here: its number, its lag, and its weight.
type mate struct{ id, lag, weight int }

// built tells the queue, of n numbers, of these mates, the first one of whom runs, if runs is true; with lags that Enter allows to nobody too.
func built(t *testing.T, n int, min uint64, runs bool, l ...mate) api.Queue {
	t.Helper()
	q := wantNew(n, min).q
	for i, m := range l {
		v := min + uint64(m.lag)
		q.Weights[m.id] = m.weight
		if i == 0 && runs {
			q.Cur, q.V = m.id, v
			continue
		}
		x, errno := tree.Insert(q.Tree, min, api.Key{V: v, Id: m.id})
		if errno != api.OK {
			t.Fatalf("%v can't be built: %d", l, errno)
		}
		q.Tree = x
	}
	return loaded(q)
}

// changed tells q, changed, in memory of its own.
func changed(q api.Queue, change func(q *api.Queue)) api.Queue {
	q = cloned(q)
	change(&q)
	return q
}
