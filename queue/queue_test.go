package queue

import (
	"fmt"
	"math"
	"slices"
	"sync"
	"testing"

	"turnspit/api"
)

// M1: what New tells at its edges, and that two calls tell two queues.
func TestNew(t *testing.T) {
	for _, min := range mins() {
		for _, n := range []int{math.MinInt, -65, -64, -2, -1, 65, 66, 128, 1 << 32, math.MaxInt} {
			if q, errno := New(n, min); !sameQueue(q, api.Queue{}) || errno != api.ErrArg {
				t.Errorf("New(%d, %d): %v, %d", n, min, q, errno)
			}
		}
		for n := range 65 {
			q, errno := New(n, min)
			if !sameQueue(q, wantNew(n, min).q) || errno != api.OK || q.Cur != -1 || q.Min != min || !Right(q) || len(Keys(q)) != 0 {
				t.Fatalf("New(%d, %d): %v, %d", n, min, q, errno)
			}
			spoil(q)
			if q, _ := New(n, min); !Right(q) {
				t.Fatalf("New(%d, %d) tells what it told ahead", n, min)
			}
		}
	}
	for _, n := range []int{0, 1, 64} {
		q, _ := New(n, top)
		checkAll(t, q)
	}
}

// The chapter's example.
func TestExample(t *testing.T) {
	q, _ := New(4, 0)
	q, _ = Enter(q, 3, 1024, 0)
	q, _ = Enter(q, 1, 1024, 0)
	q, id, errno := Pick(q)
	if id != 1 || errno != api.OK {
		t.Fatal(id, errno)
	}
	q, more, errno := Tick(q, 5)
	if !more || errno != api.OK {
		t.Fatal(more, errno)
	}
	if _, id, errno = Pick(q); id != 3 || errno != api.OK {
		t.Fatal(id, errno)
	}
}

// some tells a queue of six numbers: 2 runs, 0, 4 and 5 are in the tree.
func some(t *testing.T, min uint64) api.Queue {
	t.Helper()
	return built(t, 6, min, true, mate{2, 7, 1024}, mate{4, 0, 88761}, mate{0, -5, 15}, mate{5, 9, 1})
}

// M1: queues that are right, also at the edges of that word.
func TestRight(t *testing.T) {
	for _, min := range mins() {
		var many []mate
		for id := range 64 {
			many = append(many, mate{63 - id, (id - 32) << 44, 88761})
		}
		for name, x := range map[string]struct {
			q   api.Queue
			ids []int
		}{
			"some":                   {some(t, min), []int{0, 4, 2, 5}},
			"none of none":           {built(t, 0, min, false), nil},
			"nil lists":              {api.Queue{Tree: api.Tree{Root: -1}, Cur: -1, Min: min}, nil},
			"none of one":            {built(t, 1, min, false), nil},
			"one alone runs":         {built(t, 1, min, true, mate{0, 0, 1}), []int{0}},
			"one alone in the tree":  {built(t, 1, min, false, mate{0, 0, 88761}), []int{0}},
			"the last one runs":      {built(t, 64, min, true, mate{63, 3, 88761}), []int{63}},
			"weights 1 and 88761":    {built(t, 4, min, true, mate{1, 0, 1}, mate{3, 0, 88761}, mate{0, 0, 1}), []int{0, 1, 3}},
			"88761 runs":             {built(t, 4, min, true, mate{1, 0, 88761}, mate{3, 0, 1}), []int{1, 3}},
			"as far ahead as may be": {built(t, 4, min, true, mate{1, 1 << 50, 1}, mate{3, 1 << 50, 1}, mate{0, 1<<50 - 1, 1}), []int{0, 1, 3}},
			"as far behind":          {built(t, 4, min, true, mate{3, -1 << 50, 1}, mate{1, -1 << 50, 1}, mate{0, 1 - 1<<50, 1}), []int{1, 3, 0}},
			"both":                   {built(t, 4, min, true, mate{0, 1 << 50, 1}, mate{3, -1 << 50, 1}), []int{3, 0}},
			"both the other way":     {built(t, 4, min, true, mate{0, -1 << 50, 1}, mate{3, 1 << 50, 1}), []int{0, 3}},
			"a V of 0":               {built(t, 4, 0, true, mate{2, 0, 5}), []int{2}},
			"all":                    {built(t, 64, min, true, many...), nil},
		} {
			if !Right(x.q) || !wantRight(x.q) {
				t.Errorf("by %d: %s is not right: %v", min, name, x.q)
			}
			var ids []int
			for _, k := range Keys(x.q) {
				ids = append(ids, k.Id)
			}
			if name == "all" {
				x.ids = make([]int, 64)
				for i := range x.ids {
					x.ids[i] = 63 - i
				}
			}
			if !slices.Equal(ids, x.ids) {
				t.Errorf("by %d: Keys of %s: %v", min, name, Keys(x.q))
			}
			checkAll(t, x.q)
		}
	}
}

// M1: keys one by one, with their times.
func TestKeys(t *testing.T) {
	want := []api.Key{{V: top - 7, Id: 0}, {V: top - 2, Id: 4}, {V: 4, Id: 2}, {V: 6, Id: 5}}
	if l := Keys(some(t, top-2)); !slices.Equal(l, want) {
		t.Error(l)
	}
	want = []api.Key{{V: 5, Id: 1}, {V: 5, Id: 2}, {V: 5, Id: 3}}
	if l := Keys(built(t, 4, 5, true, mate{2, 0, 9}, mate{3, 0, 9}, mate{1, 0, 9})); !slices.Equal(l, want) {
		t.Error(l)
	}
}

// refuse holds that nothing is told of q but that it is not right: ErrOrder ahead of all other errors.
func refuse(t *testing.T, name string, q api.Queue) {
	t.Helper()
	if Right(q) || wantRight(q) || len(Keys(q)) != 0 {
		t.Errorf("%s: %t, %v: %v", name, Right(q), Keys(q), q)
	}
	order := told{errno: api.ErrOrder}
	got := []told{put(q), picked(q), ticked(q, -1), ticked(q, 0), ticked(q, 5), ticked(q, 1<<40+1)}
	for id := -2; id <= len(q.Weights)+1; id++ {
		got = append(got, left(q, id), entered(q, id, 1024, 0), entered(q, id, 0, 0), weighedAs(q, id, 1024), weighedAs(q, id, 88762))
	}
	for _, x := range got {
		if !x.equal(order) {
			t.Errorf("%s: %v of %v", name, x, q)
		}
	}
	checkRead(t, q)
	checkOrder(t, q)
	checkTick(t, q, 5)
	checkLeave(t, q, 0)
	checkEnter(t, q, 1, 1024, 0)
	checkWeigh(t, q, 0, 1024)
}

// M1 to M6: queues whose tree is not right.
func TestTreeNotRight(t *testing.T) {
	for _, min := range mins() {
		q := some(t, min)
		for name, change := range map[string]func(q *api.Queue){
			"no root":          func(q *api.Queue) { q.Tree.Root = -1 },
			"a root beyond":    func(q *api.Queue) { q.Tree.Root = 6 },
			"a root far below": func(q *api.Queue) { q.Tree.Root = math.MinInt },
			"another root":     func(q *api.Queue) { q.Tree.Root = 5 },
			"a Red root":       func(q *api.Queue) { q.Tree.Nodes[q.Tree.Root].Red = true },
			"unlike numbers":   func(q *api.Queue) { q.Tree.Nodes[5].Red = false },
			"another Up":       func(q *api.Queue) { q.Tree.Nodes[5].Up = 0 },
			"a ring":           func(q *api.Queue) { q.Tree.Nodes[5].Left = q.Tree.Root },
			"not sorted":       func(q *api.Queue) { q.Tree.Nodes[0].V = min + 1 },
			"not sorted by Id": func(q *api.Queue) { q.Tree.Nodes[4].V, q.Tree.Nodes[5].V = min+3, min-5; q.Tree.Nodes[0].V = min - 5 },
			"an empty one's V": func(q *api.Queue) { q.Tree.Nodes[1].V = 1 },
			"a Red empty one":  func(q *api.Queue) { q.Tree.Nodes[3].Red = true },
			"one aside": func(q *api.Queue) {
				q.Tree.Nodes[3] = api.Node{In: true, V: min, Left: -1, Right: -1, Up: -1}
				q.Weights[3] = 1
				q.Load++
			},
			"too many nodes": func(q *api.Queue) {
				q.Tree.Nodes, q.Weights = append(q.Tree.Nodes, slices.Repeat([]api.Node{bare}, 59)...), append(q.Weights, make([]int, 59)...)
			},
			"no nodes":         func(q *api.Queue) { q.Tree.Nodes = nil },
			"no tree":          func(q *api.Queue) { q.Tree = api.Tree{} },
			"nothing at all":   func(q *api.Queue) { *q = api.Queue{} },
			"no nodes, no Cur": func(q *api.Queue) { *q = api.Queue{Cur: -1, Min: min} },
			"nodes of zeros": func(q *api.Queue) {
				*q = api.Queue{Tree: api.Tree{Root: -1, Nodes: make([]api.Node, 2)}, Cur: -1, Weights: make([]int, 2)}
			},
			"by Min alone (on)": func(q *api.Queue) { q.Min += 1<<63 - 3; q.V = q.Min },
			"by Min alone":      func(q *api.Queue) { q.Min -= 1<<63 + 2; q.V = q.Min },
		} {
			refuse(t, fmt.Sprintf("by %d: %s", min, name), changed(q, change))
		}
	}
}

// M1 to M6: queues whose Cur, or V, is none that may be; all else of them is right.
func TestCurNotRight(t *testing.T) {
	for _, min := range mins() {
		q := some(t, min)
		still := loaded(changed(q, func(q *api.Queue) { q.Cur, q.V, q.Weights[2] = -1, 0, 0 }))
		if !Right(still) {
			t.Fatal(still)
		}
		checkAll(t, still)
		for _, cur := range strays(6) {
			for _, v := range []uint64{0, min, min + 7, 1, top} {
				if cur == -1 && v == 0 {
					continue
				}
				refuse(t, fmt.Sprintf("by %d: Cur %d, V %d", min, cur, v), changed(still, func(q *api.Queue) { q.Cur, q.V = cur, v }))
				refuse(t, fmt.Sprintf("by %d: Cur %d, V %d, 2 weighs", min, cur, v), changed(q, func(q *api.Queue) { q.Cur, q.V = cur, v }))
			}
		}
		for _, in := range []int{0, 4, 5} {
			for _, v := range []uint64{still.Tree.Nodes[in].V, min, 0} {
				refuse(t, fmt.Sprintf("by %d: Cur %d, in the tree", min, in), changed(still, func(q *api.Queue) { q.Cur, q.V = in, v }))
			}
		}
		for _, out := range []int{1, 2, 3} {
			refuse(t, fmt.Sprintf("by %d: Cur %d weighs nothing", min, out), changed(still, func(q *api.Queue) { q.Cur, q.V = out, min }))
		}
		refuse(t, "Cur 0 of none", api.Queue{Tree: api.Tree{Root: -1}, Min: min})
	}
}

// M1 to M6: queues whose Weights, or Load, are none that may be.
func TestWeightsNotRight(t *testing.T) {
	for _, min := range mins() {
		q := some(t, min)
		few := built(t, 6, min, true, mate{2, 7, 1024}, mate{4, 0, 88761})
		for name, weights := range map[string][]int{
			"none": nil, "one less": few.Weights[:5], "one more": append(slices.Clone(few.Weights), 0), "one more, that weighs": append(slices.Clone(few.Weights), 15),
			"just those that are here": {1024, 88761}, "twice as many": append(slices.Clone(few.Weights), few.Weights...), "up to 64": append(slices.Clone(few.Weights), make([]int, 58)...),
		} {
			refuse(t, "Weights: "+name, loaded(changed(few, func(q *api.Queue) { q.Weights = weights })))
			refuse(t, "Weights, with Load: "+name, changed(few, func(q *api.Queue) { q.Weights = weights }))
		}
		refuse(t, "a weight, and no numbers", api.Queue{Tree: api.Tree{Root: -1}, Cur: -1, Min: min, Weights: []int{0}})
		for id := range 6 {
			for _, w := range []int{0, 1, 15, 88761, 88762, -1, -1024, 1 << 32, math.MaxInt, math.MinInt} {
				x := loaded(changed(q, func(q *api.Queue) { q.Weights[id] = w }))
				here := id != 1 && id != 3
				if right := here && w >= 1 && w <= 88761 || !here && w == 0; right != Right(x) {
					t.Errorf("by %d: %d weighs %d: %t", min, id, w, !right)
				} else if !right {
					refuse(t, fmt.Sprintf("by %d: %d weighs %d", min, id, w), x)
				}
			}
		}
		refuse(t, "two that are not here make up for one another", changed(q, func(q *api.Queue) { q.Weights[1], q.Weights[3] = 1, -1 }))
		refuse(t, "two that are here weigh one sum", changed(q, func(q *api.Queue) { q.Weights[0], q.Weights[2] = 1039, 0 }))
		for _, load := range []int{0, -1, 1, q.Load - 1, q.Load + 1, q.Load + 1024, q.Load - 1024, -q.Load, q.Load + 1<<32, math.MinInt, math.MaxInt} {
			refuse(t, fmt.Sprintf("by %d: Load %d", min, load), changed(q, func(q *api.Queue) { q.Load = load }))
		}
		none := built(t, 3, min, false)
		for _, load := range []int{1, -1, math.MinInt, math.MaxInt} {
			refuse(t, fmt.Sprintf("Load %d of nobody", load), changed(none, func(q *api.Queue) { q.Load = load }))
		}
	}
}

// M1 to M6: queues in which one is farther from Min than may be, by 1 and by more, who runs, and the first and the last one of the tree.
func TestLagNotRight(t *testing.T) {
	for _, min := range mins() {
		for _, lag := range []int{1<<50 + 1, 1 << 51, 1 << 62, math.MaxInt, -1<<50 - 1, -1 << 51, -1 << 62, math.MinInt, 1<<50 + 1<<32} {
			name := fmt.Sprintf("by %d: a lag of %d", min, lag)
			refuse(t, name+", who runs alone", built(t, 4, min, true, mate{1, lag, 15}))
			refuse(t, name+", who runs", built(t, 4, min, true, mate{1, lag, 15}, mate{0, 0, 15}, mate{2, 1 << 50, 15}))
			refuse(t, name+", alone in the tree", built(t, 4, min, false, mate{1, lag, 15}))
			refuse(t, name+", in the tree", built(t, 4, min, true, mate{0, 0, 15}, mate{1, lag, 15}, mate{2, -1 << 50, 15}, mate{3, 1 << 50, 15}))
			refuse(t, name+", in the tree without who runs", built(t, 4, min, false, mate{1, lag, 15}, mate{2, 0, 15}, mate{3, 1, 15}))
		}
		for _, lag := range []int{1 << 50, 1<<50 - 1, -1 << 50, 1 - 1<<50} {
			for _, runs := range []bool{false, true} {
				q := built(t, 4, min, runs, mate{1, lag, 15}, mate{2, 0, 15})
				if !Right(q) {
					t.Errorf("by %d: a lag of %d is not right", min, lag)
				}
				checkAll(t, q)
			}
		}
	}
}

// M2: who enters, at which time, of which weight.
func TestEnter(t *testing.T) {
	for _, min := range mins() {
		q := some(t, min)
		for _, x := range []struct {
			id, weight, lag int
			v               uint64
		}{
			{1, 1, 0, min}, {3, 88761, 0, min}, {1, 1024, 1, min + 1}, {1, 1024, -1, min - 1}, {3, 5, 1 << 20, min + 1<<20},
			{1, 7, 1 - 1<<20, min - 1<<20 + 1}, {1, 7, -1 << 20, min - 1<<20}, {1, 7, -1<<20 - 1, min - 1<<20}, {1, 7, -1 << 50, min - 1<<20}, {1, 7, math.MinInt, min - 1<<20},
			{3, 9, 1<<50 - 1, min + 1<<50 - 1}, {3, 9, 1 << 50, min + 1<<50}, {3, 9, 1<<50 + 1, min + 1<<50}, {3, 9, 1 << 62, min + 1<<50}, {3, 9, math.MaxInt, min + 1<<50},
		} {
			y, errno := Enter(q, x.id, x.weight, x.lag)
			if errno != api.OK || !Right(y) || !y.Tree.Nodes[x.id].In || y.Tree.Nodes[x.id].V != x.v {
				t.Fatalf("by %d: Enter(%d, %d, %d): %v, %d", min, x.id, x.weight, x.lag, y, errno)
			}
			if y.Weights[x.id] != x.weight || y.Load != q.Load+x.weight || y.Cur != 2 || y.V != q.V || y.Min != min || len(Keys(y)) != 5 {
				t.Errorf("by %d: Enter(%d, %d, %d): %v", min, x.id, x.weight, x.lag, y)
			}
			checkEnter(t, q, x.id, x.weight, x.lag)
		}
		for _, x := range []struct {
			id, weight int
			errno      api.Errno
		}{
			{-1, 1, api.ErrArg}, {6, 1, api.ErrArg}, {math.MinInt, 1, api.ErrArg}, {math.MaxInt, 1, api.ErrArg}, {64, 1, api.ErrArg}, {-2, 1, api.ErrArg},
			{1, 0, api.ErrArg}, {1, 88762, api.ErrArg}, {1, -1, api.ErrArg}, {1, math.MinInt, api.ErrArg}, {1, math.MaxInt, api.ErrArg}, {-1, 0, api.ErrArg},
			{0, 1, api.ErrBusy}, {4, 88761, api.ErrBusy}, {5, 1024, api.ErrBusy}, {2, 1024, api.ErrBusy}, {2, 1, api.ErrBusy},
			{0, 0, api.ErrArg}, {4, 88762, api.ErrArg}, {2, 0, api.ErrArg}, {2, 88762, api.ErrArg},
		} {
			for _, lag := range []int{0, math.MinInt, math.MaxInt} {
				if got := entered(q, x.id, x.weight, lag); !got.equal(told{errno: x.errno}) {
					t.Errorf("by %d: Enter(%d, %d, %d): %v", min, x.id, x.weight, lag, got)
				}
				checkEnter(t, q, x.id, x.weight, lag)
			}
		}
	}
}

// M2: 64 enter one after another; none more can.
func TestEnterAll(t *testing.T) {
	for _, min := range mins() {
		q, _ := New(64, min)
		for i := range 64 {
			id := i * 27 % 64
			checkEnter(t, q, id, 88761, (i%7-3)<<18)
			q, _ = Enter(q, id, 88761, (i%7-3)<<18)
		}
		if !Right(q) || q.Load != 64*88761 || len(Keys(q)) != 64 {
			t.Fatal(q)
		}
		for id := range 64 {
			if got := entered(q, id, 1, 0); !got.equal(told{errno: api.ErrBusy}) {
				t.Errorf("Enter(%d): %v", id, got)
			}
		}
	}
}

// M3: who leaves, and with which lag.
func TestLeave(t *testing.T) {
	for _, min := range mins() {
		q := built(t, 7, min, true, mate{2, 7, 1024}, mate{4, 0, 88761}, mate{0, -5, 15}, mate{5, 1 << 50, 1}, mate{6, -1 << 50, 3})
		for id, lag := range map[int]int{2: 7, 4: 0, 0: -5, 5: 1 << 50, 6: -1 << 50} {
			x, n, errno := Leave(q, id)
			if n != lag || errno != api.OK || !Right(x) || x.Weights[id] != 0 || x.Load != q.Load-q.Weights[id] || x.Min != min || len(Keys(x)) != 4 {
				t.Errorf("by %d: Leave(%d): %v, %d, %d", min, id, x, n, errno)
			}
			if id == 2 && (x.Cur != -1 || x.V != 0) || id != 2 && (x.Cur != 2 || x.V != q.V || x.Tree.Nodes[id] != bare) {
				t.Errorf("by %d: Leave(%d): %v", min, id, x)
			}
			checkLeave(t, q, id)
			if got := left(x, id); !got.equal(told{errno: api.ErrIdle}) {
				t.Errorf("by %d: %d left twice: %v", min, id, got)
			}
		}
		for _, id := range []int{1, 3} {
			if got := left(q, id); !got.equal(told{errno: api.ErrIdle}) {
				t.Errorf("by %d: Leave(%d): %v", min, id, got)
			}
		}
		for _, id := range strays(7) {
			if got := left(q, id); !got.equal(told{errno: api.ErrArg}) {
				t.Errorf("by %d: Leave(%d): %v", min, id, got)
			}
			checkLeave(t, q, id)
		}
		for _, lag := range []int{1 << 50, -1 << 50} {
			x, n, errno := Leave(built(t, 1, min, true, mate{0, lag, 5}), 0)
			if !sameQueue(x, wantNew(1, min).q) || n != lag || errno != api.OK {
				t.Errorf("by %d: the only one left: %v, %d, %d", min, x, n, errno)
			}
		}
	}
}

// R4: what is told is the same, however many ask at once.
func TestAtOnce(t *testing.T) {
	q := some(t, top-3)
	var all sync.WaitGroup
	faults := make([]int, 16)
	for i := range faults {
		all.Add(1)
		go func() {
			defer all.Done()
			for range 50 {
				if !Right(q) || !picked(q).equal(wantPick(q)) || !put(q).equal(wantPut(q)) || !ticked(q, 9).equal(wantTick(q, 9)) || !left(q, 2).equal(wantLeave(q, 2)) || !entered(q, 1, 5, i).equal(wantEnter(q, 1, 5, i)) || !weighedAs(q, 4, 5).equal(wantWeigh(q, 4, 5)) {
					faults[i]++
				}
			}
		}()
	}
	all.Wait()
	if slices.Max(faults) > 0 {
		t.Error(faults)
	}
}
