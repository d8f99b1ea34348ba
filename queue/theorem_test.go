package queue

import (
	"slices"
	"testing"

	"turnspit/api"
)

// drawnLag tells a lag from -2^50 to 2^50: small ones, ones near the edges, and whatever ones.
func drawnLag(next func() uint64) int {
	lag := int(next()>>(14+next()%50)) % (1<<50 + 1)
	switch next() % 8 {
	case 0:
		lag = 1<<50 - lag>>30
	case 1, 2:
		lag %= 8
	}
	if next()%2 == 0 {
		return -lag
	}
	return lag
}

// drawnWeight tells a weight that may be.
func drawnWeight(next func() uint64) int {
	switch next() % 4 {
	case 0:
		return []int{1, 2, 15, 1024, 88760, 88761}[next()%6]
	case 1:
		return 1 + int(next()%100)
	}
	return 1 + int(next()%88761)
}

// drawnQueue tells a queue that is right, of at most so many numbers.
func drawnQueue(t *testing.T, next func() uint64, most int) api.Queue {
	t.Helper()
	n := int(next() % uint64(most+1))
	min := mins()[next()%uint64(len(mins()))]
	if next()%2 == 0 {
		min = next() >> (next() & 63)
	}
	var l []mate
	share := next() % 9
	for i := range n {
		if next()%8 < share {
			l = append(l, mate{i, drawnLag(next), drawnWeight(next)})
		}
	}
	for i := range l {
		k := int(next() % uint64(i+1))
		l[i], l[k] = l[k], l[i]
	}
	return built(t, n, min, next()%4 > 0, l...)
}

// M1 to M6: queues that are drawn, and all calls of them.
func TestDrawn(t *testing.T) {
	next := draw(1)
	for range 150 {
		q := drawnQueue(t, next, 12)
		if !Right(q) {
			t.Fatal(q)
		}
		checkAll(t, q)
	}
	for range 600 {
		q := drawnQueue(t, next, 64)
		checkRead(t, q)
		checkOrder(t, q)
		checkTick(t, q, int(next()>>(23+next()%41)))
		for range 5 {
			id := int(next()%uint64(len(q.Weights)+2)) - 1
			checkLeave(t, q, id)
			checkEnter(t, q, id, drawnWeight(next), drawnLag(next))
			checkWeigh(t, q, id, drawnWeight(next))
		}
	}
}

// M1: right queues with one part that is another one.
func TestHarmed(t *testing.T) {
	next := draw(2)
	for range 40 {
		q := drawnQueue(t, next, 9)
		n := len(q.Weights)
		numbers := []int{-2, -1, 0, 1, n - 1, n, 15, 88761, 88762, 1 << 50, 1<<50 + 1, int(next())}
		for _, to := range numbers {
			harmed := []api.Queue{
				changed(q, func(q *api.Queue) { q.Cur = to }), changed(q, func(q *api.Queue) { q.V = uint64(to) }), changed(q, func(q *api.Queue) { q.V += uint64(to) }),
				changed(q, func(q *api.Queue) { q.Min += uint64(to) }), changed(q, func(q *api.Queue) { q.Load = to }), changed(q, func(q *api.Queue) { q.Tree.Root = to }),
			}
			for id := range n {
				harmed = append(harmed, changed(q, func(q *api.Queue) { q.Weights[id] = to }), loaded(changed(q, func(q *api.Queue) { q.Weights[id] = to })),
					changed(q, func(q *api.Queue) { q.Tree.Nodes[id].V += uint64(to) }), changed(q, func(q *api.Queue) { q.Tree.Nodes[id] = bare }))
			}
			for _, x := range harmed {
				checkRead(t, x)
				checkOrder(t, x)
				checkTick(t, x, to)
				checkTask(t, x, int(next()%uint64(n+1)))
			}
		}
	}
}

// step tells q behind a call that is drawn, which it holds against the words of the chapter; q itself, where it can't be done.
func step(t *testing.T, q api.Queue, next func() uint64) api.Queue {
	t.Helper()
	id, w, lag := int(next()%uint64(len(q.Weights)+2))-1, drawnWeight(next), drawnLag(next)
	var got, want told
	switch next() % 8 {
	case 0:
		got, want = entered(q, id, w, lag), wantEnter(q, id, w, lag)
	case 1:
		got, want = left(q, id), wantLeave(q, id)
	case 2:
		got, want = put(q), wantPut(q)
	case 3, 4:
		got, want = picked(q), wantPick(q)
		if l := Keys(q); got.errno == api.OK && (got.n != l[0].Id || got.q.Cur != l[0].Id || got.q.V != l[0].V || Keys(got.q)[0] != l[0]) {
			t.Fatalf("of %v %d is picked", q, got.n)
		}
	case 5, 6:
		d := int(next() >> (24 + next()%40))
		got, want = ticked(q, d), wantTick(q, d)
	case 7:
		got, want = weighedAs(q, id, w), wantWeigh(q, id, w)
	}
	if !got.equal(want) {
		t.Fatalf("of %v: %v; want %v", q, got, want)
	}
	if got.errno != api.OK {
		return q
	}
	return got.q
}

// M7: long rows of calls in whatever order: what comes of a right queue is right, Min never goes back, and who is picked is the first one.
func TestTheorem(t *testing.T) {
	next := draw(3)
	for i := range 60 {
		q := drawnQueue(t, next, 64)
		if i%3 == 0 {
			q, _ = New(int(next()%6), next())
		}
		for range 400 {
			x := step(t, q, next)
			if !Right(x) || !wantRight(x) {
				t.Fatalf("%v comes of %v", x, q)
			}
			if x.Min-q.Min > 1<<50 {
				t.Fatalf("of %v Min goes from %d to %d", x, q.Min, x.Min)
			}
			q = x
		}
	}
}

// apart tells how far two times are from each other.
func apart(a, b uint64) uint64 { return min(a-b, b-a) }

// near is which pairs of those that are here have come as near each other as M7's bound.
type near map[[2]int]bool

// hold holds that no pair that was within the bound is beyond it in q, and notes those that are within it.
func (n near) hold(t *testing.T, q api.Queue, bound uint64) {
	t.Helper()
	l := Keys(q)
	for i, a := range l {
		for _, b := range l[:i] {
			pair := [2]int{min(a.Id, b.Id), max(a.Id, b.Id)}
			within := apart(a.V, b.V) <= bound
			if n[pair] && !within {
				t.Fatalf("%v: %v and %v are more than %d apart", q, a, b, bound)
			}
			n[pair] = within
		}
	}
}

// drawnMates tells a queue of some that are as near the bound of ticks of d as not, who of them runs being picked, and the bound.
func drawnMates(t *testing.T, next func() uint64, d int) (api.Queue, uint64) {
	t.Helper()
	n, least := 1+int(next()%12), 88761
	l := make([]mate, n)
	for i := range l {
		l[i] = mate{i, 0, drawnWeight(next)}
		least = min(least, l[i].weight)
	}
	bound := 1024*d/least + 1
	for i := range l {
		l[i].lag = min(int(next()%uint64(2*bound+1)), 1<<50) // half of those within the bound of the least one
	}
	q, _, errno := Pick(built(t, n, next()-next()>>(next()&63), next()%2 == 0, l...))
	if errno != api.OK {
		t.Fatal(l, errno)
	}
	return q, uint64(bound)
}

// far tells whether a lag of q has come to MaxLag.
func far(q api.Queue) bool {
	return slices.ContainsFunc(Keys(q), func(k api.Key) bool { return k.V-q.Min == 1<<50 })
}

// M7: of those that stay no two that were within the bound are ever beyond it, where who ticks was picked, and each Tick is followed by a Pick, Puts being between them or not, till a lag comes to MaxLag.
func TestTheoremOfTheBound(t *testing.T) {
	next := draw(4)
	ticks, all := 0, 0
	for range 300 {
		d := int(next() >> (24 + next()%40))
		q, bound := drawnMates(t, next, d)
		pairs := near{}
		for range 200 {
			pairs.hold(t, q, bound)
			if far(q) {
				break
			}
			now := d
			if next()%2 == 0 {
				now = int(next() % uint64(d+1))
			}
			q, _, _ = Tick(q, now)
			pairs.hold(t, q, bound)
			if next()%4 == 0 {
				q, _, _ = Put(q)
				pairs.hold(t, q, bound)
			}
			x, _, errno := Pick(q)
			if errno != api.OK {
				t.Fatal(q, errno)
			}
			q = x
			ticks++
		}
		for _, within := range pairs {
			if within {
				all++
			}
		}
	}
	if ticks < 20000 || all < 4000 {
		t.Errorf("only %d ticks, and %d pairs within the bound", ticks, all)
	}
}

// M7: of those that enter with the same lag none is ever farther from another one than the bound, and none is left behind.
func TestTheoremOfShares(t *testing.T) {
	for _, min := range mins() {
		for _, weights := range [][]int{{1024, 1024}, {88761, 15}, {1024, 15, 88761, 110}, {1, 1, 1}, {1, 88761}} {
			q, _ := New(len(weights), min)
			for id, w := range weights {
				q, _ = Enter(q, id, w, 0)
			}
			bound := uint64(1024*1000/slices.Min(weights)) + 1
			picks := make([]int, len(weights))
			for range 2000 {
				x, id, errno := Pick(q)
				if errno != api.OK {
					t.Fatal(errno)
				}
				picks[id]++
				q, _, _ = Tick(x, 1000)
				l := Keys(q)
				if apart(l[0].V, l[len(l)-1].V) > bound {
					t.Fatalf("by %d: %v: %v", min, weights, l)
				}
			}
			if slices.Min(picks) == 0 || weights[0] == weights[1] && apart(uint64(picks[0]), uint64(picks[1])) > 1 {
				t.Errorf("by %d: %v are picked %v", min, weights, picks)
			}
		}
	}
}

// FuzzQueue holds M1 to M7 of queues that bytes, and numbers, tell.
func FuzzQueue(f *testing.F) {
	f.Add(uint64(0), 4, uint64(1), []byte{3, 0, 1, 0, 9, 9, 9}, 1, 1024, 0)
	f.Add(top, 64, uint64(7), []byte{1, 2, 3, 4, 5, 6, 7, 8, 9, 10, 11, 12, 13, 14}, 64, 88761, 1<<50)
	f.Add(uint64(1<<63), 65, uint64(9), []byte{}, -1, 0, -1<<20)
	f.Fuzz(func(t *testing.T, min uint64, n int, seed uint64, row []byte, id, weight, lag int) {
		if got, errno := New(n, min); !(told{q: got, errno: errno}).equal(wantNew(n, min)) {
			t.Fatal(n, min, got, errno)
		}
		next := draw(seed)
		q := drawnQueue(t, next, 64)
		for _, b := range row {
			x := step(t, q, draw(seed+uint64(b)))
			if !Right(x) || x.Min-q.Min > 1<<50 {
				t.Fatalf("%v comes of %v", x, q)
			}
			q = x
		}
		checkRead(t, q)
		checkOrder(t, q)
		checkEnter(t, q, id, weight, lag)
		checkLeave(t, q, id)
		checkWeigh(t, q, id, weight)
		checkTick(t, q, lag)
		q.Load, q.V, q.Min = q.Load+weight, q.V+uint64(lag), q.Min+min
		checkRead(t, q)
		checkOrder(t, q)
		checkTask(t, q, id)
	})
}
