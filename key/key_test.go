package key

import (
	"math"
	"slices"
	"testing"

	"turnspit/api"
)

const top uint64 = 1<<64 - 1

// rank tells how far v's lag by min is above -2^63, the least one: what is reckoned here needs neither layer 3 nor signs.
func rank(v, min uint64) uint64 { return v - min + 1<<63 }

// wantLess tells the word 'less' of the chapter.
func wantLess(min uint64, a, b api.Key) bool {
	return rank(a.V, min) < rank(b.V, min) || a.V == b.V && a.Id < b.Id
}

// wantSorted tells the word 'sorted' of the chapter, holding all Ids against each other.
func wantSorted(min uint64, l []api.Key) bool {
	for i := range l {
		if i > 0 && !wantLess(min, l[i-1], l[i]) {
			return false
		}
		for j := range i {
			if l[j].Id == l[i].Id {
				return false
			}
		}
	}
	return true
}

// wantFirst tells what H2 asks of First, by holding each one against all.
func wantFirst(min uint64, l []api.Key) (api.Key, bool) {
	for _, k := range l {
		if !slices.ContainsFunc(l, func(x api.Key) bool { return wantLess(min, x, k) }) {
			return k, true
		}
	}
	return api.Key{}, false
}

// wantSort tells what H2 asks of Sort, by taking the first one out again and again.
func wantSort(min uint64, l []api.Key) []api.Key {
	rest := slices.Clone(l)
	var sorted []api.Key
	for {
		k, ok := wantFirst(min, rest)
		if !ok {
			return sorted
		}
		sorted = append(sorted, k)
		i := slices.Index(rest, k)
		rest = slices.Delete(rest, i, i+1)
	}
}

// wantPut tells what H3 asks of Put.
func wantPut(min uint64, l []api.Key, k api.Key) ([]api.Key, api.Errno) {
	if !wantSorted(min, l) {
		return nil, api.ErrOrder
	}
	if slices.ContainsFunc(l, func(x api.Key) bool { return x.Id == k.Id }) {
		return nil, api.ErrArg
	}
	return wantSort(min, append(slices.Clone(l), k)), api.OK
}

// wantDrop tells what H3 asks of Drop.
func wantDrop(min uint64, l []api.Key, id int) ([]api.Key, api.Errno) {
	if !wantSorted(min, l) {
		return nil, api.ErrOrder
	}
	left := slices.DeleteFunc(slices.Clone(l), func(x api.Key) bool { return x.Id == id })
	if len(left) == len(l) {
		return nil, api.ErrIdle
	}
	return left, api.OK
}

// mins are least times at their edges.
func mins() []uint64 {
	return []uint64{0, 1, 5, 1 << 62, 1<<63 - 1, 1 << 63, 1<<63 + 1, top - 4, top - 1, top}
}

// lags are those on both sides of a least time, the least one and the greatest one among them.
func lags() []int {
	return []int{math.MinInt, math.MinInt + 1, -1 << 62, -2, -1, 0, 1, 2, 1 << 62, math.MaxInt - 1, math.MaxInt}
}

// ids are Ids at their edges.
func ids() []int {
	return []int{math.MinInt, -1 << 32, -1, 0, 1, 3, 63, 1 << 32, math.MaxInt}
}

// by tells the key of a lag by min, and an Id.
func by(min uint64, lag, id int) api.Key { return api.Key{V: min + uint64(lag), Id: id} }

// edges are keys of all these lags and Ids.
func edges(min uint64) []api.Key {
	var l []api.Key
	for _, lag := range lags() {
		for _, id := range ids() {
			l = append(l, by(min, lag, id))
		}
	}
	return l
}

// draw tells a closure that tells numbers, the same ones of a seed each time.
func draw(seed uint64) func() uint64 {
	return func() uint64 {
		seed = seed*6364136223846793005 + 1442695040888963407
		n := seed
		n ^= n >> 29
		return n * 0x9e3779b97f4a7c15
	}
}

// many tells n keys with unlike Ids, in no order, their times all around; every third one has the time of the one ahead of it.
func many(seed uint64, n int) []api.Key {
	next := draw(seed)
	var l []api.Key
	for i := range n {
		v := next()
		if i%3 == 2 {
			v = l[i-1].V
		}
		l = append(l, api.Key{V: v, Id: int(uint64(i) * 0x9e3779b97f4a7c15)}) // an odd factor: no two are the same
	}
	return l
}

// turned tells l with all times turned on by more.
func turned(l []api.Key, more uint64) []api.Key {
	var m []api.Key
	for _, k := range l {
		m = append(m, api.Key{V: k.V + more, Id: k.Id})
	}
	return m
}

// guarded tells l, with other keys behind its length, and a function that says whether all of these are as they were.
func guarded(l []api.Key) ([]api.Key, func() bool) {
	long := append(slices.Clone(l), api.Key{V: 77, Id: 77}, api.Key{V: 78, Id: -78}, api.Key{V: 79, Id: 1})
	old := slices.Clone(long)
	return long[:len(l)], func() bool { return slices.Equal(long, old) }
}

// spoil writes over l, and what stands behind its length.
func spoil(l []api.Key) {
	l = l[:cap(l)]
	for i := range l {
		l[i] = api.Key{V: 4711, Id: 4711}
	}
}

// checkLess holds H1's Less.
func checkLess(t *testing.T, min uint64, a, b api.Key) {
	t.Helper()
	if got := Less(min, a, b); got != wantLess(min, a, b) {
		t.Fatalf("Less(%d, %v, %v): %t", min, a, b, got)
	}
}

// checkList holds H1's Sorted and H2, and that l is not written into, also not by who writes into what is told.
func checkList(t *testing.T, min uint64, l []api.Key) {
	t.Helper()
	in, whole := guarded(l)
	if got := Sorted(min, in); got != wantSorted(min, l) {
		t.Fatalf("Sorted(%d, %v): %t", min, l, got)
	}
	first, is := wantFirst(min, l)
	if k, ok := First(min, in); k != first || ok != is {
		t.Fatalf("First(%d, %v): %v, %t; want %v, %t", min, l, k, ok, first, is)
	}
	sorted := Sort(min, in)
	if want := wantSort(min, l); !slices.Equal(sorted, want) {
		t.Fatalf("Sort(%d, %v): %v; want %v", min, l, sorted, want)
	}
	spoil(sorted)
	if !whole() {
		t.Fatalf("Sorted, First or Sort(%d, %v) wrote into it", min, l)
	}
}

// checkPut holds H3's Put, and that l is not written into.
func checkPut(t *testing.T, min uint64, l []api.Key, k api.Key) {
	t.Helper()
	in, whole := guarded(l)
	want, fault := wantPut(min, l, k)
	m, errno := Put(min, in, k)
	if !slices.Equal(m, want) || errno != fault {
		t.Fatalf("Put(%d, %v, %v): %v, %d; want %v, %d", min, l, k, m, errno, want, fault)
	}
	spoil(m)
	if !whole() {
		t.Fatalf("Put(%d, %v, %v) wrote into it", min, l, k)
	}
}

// checkDrop holds H3's Drop, and that l is not written into.
func checkDrop(t *testing.T, min uint64, l []api.Key, id int) {
	t.Helper()
	in, whole := guarded(l)
	want, fault := wantDrop(min, l, id)
	m, errno := Drop(min, in, id)
	if !slices.Equal(m, want) || errno != fault {
		t.Fatalf("Drop(%d, %v, %d): %v, %d; want %v, %d", min, l, id, m, errno, want, fault)
	}
	spoil(m)
	if !whole() {
		t.Fatalf("Drop(%d, %v, %d) wrote into it", min, l, id)
	}
}

// checkAll holds H1 to H3 of one list, k being put into it, and its Id dropped.
func checkAll(t *testing.T, min uint64, l []api.Key, k api.Key) {
	t.Helper()
	checkList(t, min, l)
	checkPut(t, min, l, k)
	checkDrop(t, min, l, k.Id)
}

// The chapter's example.
func TestExample(t *testing.T) {
	const min uint64 = 1<<64 - 5
	a, b, c := api.Key{V: 1<<64 - 1, Id: 7}, api.Key{V: 0, Id: 3}, api.Key{V: 0, Id: 4}
	if !Less(min, a, b) || !Less(min, b, c) || !Less(min, a, c) || Less(min, b, a) || Less(min, c, b) || Less(min, c, a) {
		t.Error("not a, b, c")
	}
}

// H1: lags on both sides of min, the same time with unlike Ids, the same Id with unlike times, two that are the same.
func TestLess(t *testing.T) {
	for _, x := range []struct {
		lag, id, lag2, id2 int
		want               bool
	}{
		{0, 1, 1, 1, true}, {1, 1, 0, 1, false}, {-1, 1, 0, 1, true}, {0, 1, -1, 1, false}, {-1, 1, 1, 1, true}, {1, 1, -1, 1, false},
		{-2, 1, -1, 1, true}, {-1, 1, -2, 1, false}, {3, 1, 900, 1, true}, {900, 1, 3, 1, false},
		{math.MinInt, 1, math.MaxInt, 1, true}, {math.MaxInt, 1, math.MinInt, 1, false}, // next to each other, all the way round
		{math.MinInt, 1, 0, 1, true}, {0, 1, math.MinInt, 1, false}, {0, 1, math.MaxInt, 1, true}, {math.MaxInt, 1, 0, 1, false},
		{math.MinInt, 1, -1, 1, true}, {-1, 1, math.MaxInt, 1, true}, {-1 << 62, 1, 1 << 62, 1, true}, {1 << 62, 1, -1 << 62, 1, false}, // 2^63 apart
		{0, 1, 0, 2, true}, {0, 2, 0, 1, false}, {5, -1, 5, 0, true}, {5, 0, 5, -1, false}, {-5, -2, -5, -1, true}, {-5, -1, -5, -2, false},
		{0, math.MinInt, 0, math.MaxInt, true}, {0, math.MaxInt, 0, math.MinInt, false}, {0, math.MinInt, 0, 0, true}, {0, math.MaxInt, 0, 0, false},
		{0, 9, 1, 2, true}, {1, 2, 0, 9, false}, {-1, math.MaxInt, 0, math.MinInt, true}, {0, math.MinInt, -1, math.MaxInt, false}, // the time ahead of the Id
		{0, 1, 0, 1, false}, {0, 0, 0, 0, false}, {math.MinInt, math.MinInt, math.MinInt, math.MinInt, false}, {math.MaxInt, math.MaxInt, math.MaxInt, math.MaxInt, false},
	} {
		for _, min := range mins() {
			a, b := by(min, x.lag, x.id), by(min, x.lag2, x.id2)
			if got := Less(min, a, b); got != x.want {
				t.Errorf("by %d: lag %d, Id %d, less than lag %d, Id %d: %t", min, x.lag, x.id, x.lag2, x.id2, got)
			}
		}
	}
	for _, min := range mins() {
		for _, a := range edges(min) {
			for _, b := range edges(min) {
				checkLess(t, min, a, b)
				checkLess(t, 0, a, b)
				checkLess(t, top, a, b)
			}
		}
	}
}

// H1: none, one and many; what is not sorted at its beginning, in its midst, at its end; what is but for an Id that stands twice, near or far.
func TestSorted(t *testing.T) {
	for _, min := range mins() {
		k := func(lag, id int) api.Key { return by(min, lag, id) }
		for _, x := range []struct {
			l    []api.Key
			want bool
		}{
			{nil, true}, {[]api.Key{}, true}, {[]api.Key{k(0, 0)}, true}, {[]api.Key{k(math.MinInt, math.MinInt)}, true}, {[]api.Key{k(math.MaxInt, -7)}, true},
			{[]api.Key{k(math.MinInt, 9), k(-1, 8), k(0, 7), k(1, 6), k(math.MaxInt, 5)}, true},
			{[]api.Key{k(math.MaxInt, 5), k(math.MinInt, 9), k(-1, 8), k(0, 7), k(1, 6)}, false},
			{[]api.Key{k(0, math.MinInt), k(0, -1), k(0, 0), k(0, 3), k(0, math.MaxInt)}, true},
			{[]api.Key{k(-1, 4), k(0, 2), k(0, 3), k(1, 1)}, true},
			{[]api.Key{k(0, 2), k(-1, 4), k(0, 3), k(1, 1)}, false}, {[]api.Key{k(-1, 4), k(0, 3), k(0, 2), k(1, 1)}, false}, {[]api.Key{k(-1, 4), k(0, 2), k(1, 1), k(0, 3)}, false},
			{[]api.Key{k(0, 1), k(0, 1)}, false}, {[]api.Key{k(0, 1), k(0, 1), k(0, 1)}, false}, {[]api.Key{k(-1, 0), k(0, 1), k(0, 1), k(1, 2)}, false},
			{[]api.Key{k(0, 1), k(1, 1)}, false}, {[]api.Key{k(math.MinInt, 1), k(math.MaxInt, 1)}, false},
			{[]api.Key{k(-3, 1), k(-1, 2), k(4, 1)}, false}, {[]api.Key{k(-3, 1), k(-1, 2), k(4, 3), k(5, 4), k(6, 1)}, false},
			{[]api.Key{k(-3, 5), k(-1, 2), k(4, 3), k(5, 4), k(6, 4)}, false}, {[]api.Key{k(-3, 5), k(-1, math.MinInt), k(4, 3), k(5, math.MinInt), k(6, 4)}, false},
			{[]api.Key{k(-3, 5), k(-1, 0), k(4, 3), k(5, 0)}, false}, {[]api.Key{k(-3, 5), k(-1, -6), k(4, 3), k(5, 6)}, true},
		} {
			if got := Sorted(min, x.l); got != x.want {
				t.Errorf("Sorted(%d, %v): %t", min, x.l, got)
			}
			checkList(t, min, x.l)
		}
	}
}

// H2: none, one and many; in no order, in order, the wrong way round; several that are the same; the first one at the beginning, in the midst, at the end.
func TestFirstSort(t *testing.T) {
	for _, l := range [][]api.Key{nil, {}} {
		for _, min := range mins() {
			if k, ok := First(min, l); k != (api.Key{}) || ok {
				t.Errorf("First(%d) of none: %v, %t", min, k, ok)
			}
			if m := Sort(min, l); len(m) != 0 {
				t.Errorf("Sort(%d) of none: %v", min, m)
			}
		}
	}
	for _, min := range mins() {
		k := func(lag, id int) api.Key { return by(min, lag, id) }
		for _, x := range []struct{ l, sorted []api.Key }{
			{[]api.Key{k(3, 4)}, []api.Key{k(3, 4)}},
			{[]api.Key{{}}, []api.Key{{}}},
			{[]api.Key{k(-1, 7), k(0, 3), k(0, 4)}, []api.Key{k(-1, 7), k(0, 3), k(0, 4)}},
			{[]api.Key{k(0, 4), k(-1, 7), k(0, 3)}, []api.Key{k(-1, 7), k(0, 3), k(0, 4)}},
			{[]api.Key{k(0, 4), k(0, 3), k(-1, 7)}, []api.Key{k(-1, 7), k(0, 3), k(0, 4)}},
			{[]api.Key{k(math.MaxInt, 0), k(1, 0), k(0, 0), k(-1, 0), k(math.MinInt, 0)}, []api.Key{k(math.MinInt, 0), k(-1, 0), k(0, 0), k(1, 0), k(math.MaxInt, 0)}},
			{[]api.Key{k(0, math.MaxInt), k(0, 0), k(0, math.MinInt), k(0, -1)}, []api.Key{k(0, math.MinInt), k(0, -1), k(0, 0), k(0, math.MaxInt)}},
			{[]api.Key{k(2, 2), k(2, 2), k(2, 2)}, []api.Key{k(2, 2), k(2, 2), k(2, 2)}},
			{[]api.Key{k(5, 1), k(2, 2), k(5, 1), k(-2, 2), k(2, 2), k(-2, 2)}, []api.Key{k(-2, 2), k(-2, 2), k(2, 2), k(2, 2), k(5, 1), k(5, 1)}},
			{[]api.Key{k(5, 1), k(4, 1), k(4, 0), k(4, 1)}, []api.Key{k(4, 0), k(4, 1), k(4, 1), k(5, 1)}},
		} {
			if m := Sort(min, x.l); !slices.Equal(m, x.sorted) {
				t.Errorf("Sort(%d, %v): %v; want %v", min, x.l, m, x.sorted)
			}
			if first, ok := First(min, x.l); first != x.sorted[0] || !ok {
				t.Errorf("First(%d, %v): %v, %t; want %v", min, x.l, first, ok, x.sorted[0])
			}
			checkList(t, min, x.l)
		}
		checkList(t, min, edges(min))
		checkList(t, min, append(edges(min-1), edges(0)...))
		checkList(t, min, many(min, 300))
	}
}

// H3: ahead of all, behind all, between two, by the time or by the Id; into none; of an Id that is in it, with the same time or another one.
func TestPut(t *testing.T) {
	for _, min := range mins() {
		k := func(lag, id int) api.Key { return by(min, lag, id) }
		l := []api.Key{k(-3, 9), k(0, 4), k(0, 6), k(8, -2)}
		for _, x := range []struct {
			l     []api.Key
			k     api.Key
			want  []api.Key
			errno api.Errno
		}{
			{nil, k(2, 3), []api.Key{k(2, 3)}, api.OK}, {[]api.Key{}, api.Key{}, []api.Key{{}}, api.OK},
			{l, k(-4, 5), []api.Key{k(-4, 5), k(-3, 9), k(0, 4), k(0, 6), k(8, -2)}, api.OK},
			{l, k(-3, 8), []api.Key{k(-3, 8), k(-3, 9), k(0, 4), k(0, 6), k(8, -2)}, api.OK},
			{l, k(math.MinInt, math.MaxInt), []api.Key{k(math.MinInt, math.MaxInt), k(-3, 9), k(0, 4), k(0, 6), k(8, -2)}, api.OK},
			{l, k(-3, 10), []api.Key{k(-3, 9), k(-3, 10), k(0, 4), k(0, 6), k(8, -2)}, api.OK},
			{l, k(-1, 5), []api.Key{k(-3, 9), k(-1, 5), k(0, 4), k(0, 6), k(8, -2)}, api.OK},
			{l, k(0, 3), []api.Key{k(-3, 9), k(0, 3), k(0, 4), k(0, 6), k(8, -2)}, api.OK},
			{l, k(0, 5), []api.Key{k(-3, 9), k(0, 4), k(0, 5), k(0, 6), k(8, -2)}, api.OK},
			{l, k(0, 7), []api.Key{k(-3, 9), k(0, 4), k(0, 6), k(0, 7), k(8, -2)}, api.OK},
			{l, k(8, -3), []api.Key{k(-3, 9), k(0, 4), k(0, 6), k(8, -3), k(8, -2)}, api.OK},
			{l, k(8, -1), []api.Key{k(-3, 9), k(0, 4), k(0, 6), k(8, -2), k(8, -1)}, api.OK},
			{l, k(9, -9), []api.Key{k(-3, 9), k(0, 4), k(0, 6), k(8, -2), k(9, -9)}, api.OK},
			{l, k(math.MaxInt, math.MinInt), []api.Key{k(-3, 9), k(0, 4), k(0, 6), k(8, -2), k(math.MaxInt, math.MinInt)}, api.OK},
			{l, k(-3, 9), nil, api.ErrArg}, {l, k(0, 4), nil, api.ErrArg}, {l, k(8, -2), nil, api.ErrArg}, // the first one, one between, the last one
			{l, k(7, 9), nil, api.ErrArg}, {l, k(-9, 6), nil, api.ErrArg}, {l, k(math.MaxInt, -2), nil, api.ErrArg}, {l[:1], k(1, 9), nil, api.ErrArg},
		} {
			if m, errno := Put(min, x.l, x.k); !slices.Equal(m, x.want) || errno != x.errno {
				t.Errorf("Put(%d, %v, %v): %v, %d; want %v, %d", min, x.l, x.k, m, errno, x.want, x.errno)
			}
			checkPut(t, min, x.l, x.k)
		}
	}
}

// H3: the first one, the last one, one between, the one that is alone; an Id that is not in it.
func TestDrop(t *testing.T) {
	for _, min := range mins() {
		k := func(lag, id int) api.Key { return by(min, lag, id) }
		l := []api.Key{k(math.MinInt, 9), k(0, 4), k(0, math.MaxInt), k(8, -2), k(math.MaxInt, math.MinInt)}
		for _, x := range []struct {
			l     []api.Key
			id    int
			want  []api.Key
			errno api.Errno
		}{
			{l, 9, l[1:], api.OK}, {l, math.MinInt, l[:4], api.OK}, {l[:1], 9, nil, api.OK}, {l[3:4], -2, nil, api.OK},
			{l, 4, []api.Key{l[0], l[2], l[3], l[4]}, api.OK}, {l, math.MaxInt, []api.Key{l[0], l[1], l[3], l[4]}, api.OK}, {l, -2, []api.Key{l[0], l[1], l[2], l[4]}, api.OK},
			{l, 0, nil, api.ErrIdle}, {l, 2, nil, api.ErrIdle}, {l, math.MaxInt - 1, nil, api.ErrIdle}, {l[1:], 9, nil, api.ErrIdle}, {l[:4], math.MinInt, nil, api.ErrIdle},
			{nil, 0, nil, api.ErrIdle}, {[]api.Key{}, 0, nil, api.ErrIdle}, {nil, math.MinInt, nil, api.ErrIdle}, {l[:0], 9, nil, api.ErrIdle},
		} {
			if m, errno := Drop(min, x.l, x.id); !slices.Equal(m, x.want) || errno != x.errno {
				t.Errorf("Drop(%d, %v, %d): %v, %d; want %v, %d", min, x.l, x.id, m, errno, x.want, x.errno)
			}
			checkDrop(t, min, x.l, x.id)
		}
	}
}

// H3, R1: of keys that are not sorted, or are but for an Id that stands twice, ErrOrder is told, also where an Id is in it, or is not; nothing beside an error.
func TestWrong(t *testing.T) {
	for _, min := range mins() {
		k := func(lag, id int) api.Key { return by(min, lag, id) }
		for _, l := range [][]api.Key{
			{k(1, 1), k(0, 2)}, {k(0, 2), k(0, 1)}, {k(0, 1), k(0, 1)}, {k(0, 1), k(1, 1)}, {k(math.MaxInt, 1), k(math.MinInt, 2)},
			{k(0, 1), k(2, 2), k(1, 3)}, {k(2, 1), k(1, 2), k(3, 3)}, {k(0, 1), k(1, 2), k(2, 1)}, {k(0, 1), k(1, 2), k(2, 3), k(3, 2)},
		} {
			for _, id := range []int{1, 2, 3, 4, -1, math.MinInt, math.MaxInt} {
				if m, errno := Put(min, l, k(5, id)); len(m) != 0 || errno != api.ErrOrder {
					t.Errorf("Put(%d, %v, Id %d): %v, %d", min, l, id, m, errno)
				}
				if m, errno := Drop(min, l, id); len(m) != 0 || errno != api.ErrOrder {
					t.Errorf("Drop(%d, %v, %d): %v, %d", min, l, id, m, errno)
				}
				checkAll(t, min, l, k(5, id))
			}
		}
	}
}

// H1, H2, H3: each row of at most four of some keys, and each of these put and dropped: all orders, all doubles.
func TestAllShort(t *testing.T) {
	for _, min := range []uint64{0, 5, top} {
		some := []api.Key{by(min, math.MinInt, 1), by(min, -1, 2), by(min, 0, 1), by(min, 0, 2), by(min, 0, 3), by(min, math.MaxInt, 3)}
		rows := [][]api.Key{nil}
		for len(rows) > 0 {
			l := rows[0]
			rows = rows[1:]
			for _, k := range some {
				checkAll(t, min, l, k)
				if len(l) < 4 {
					rows = append(rows, append(slices.Clone(l), k))
				}
			}
		}
	}
}

// H2, H3: many keys, put one after another in no order, come to what Sort tells; dropped one after another in no order, to none.
func TestMany(t *testing.T) {
	for _, min := range []uint64{0, 12345, 1 << 63, top} {
		l := many(min+1, 400)
		var m []api.Key
		for i, k := range l {
			n, errno := Put(min, m, k)
			if errno != api.OK || !Sorted(min, n) || len(n) != i+1 {
				t.Fatalf("by %d: key %d: %d", min, i, errno)
			}
			m = n
		}
		if !slices.Equal(m, wantSort(min, l)) || !slices.Equal(m, Sort(min, l)) || !slices.Equal(m, Sort(min, m)) {
			t.Fatalf("by %d: put, and sorted, are two things", min)
		}
		for i, k := range l {
			n, errno := Drop(min, m, k.Id)
			want, _ := wantDrop(min, m, k.Id)
			if errno != api.OK || !slices.Equal(n, want) || len(n) != len(l)-1-i {
				t.Fatalf("by %d: key %d: %d", min, i, errno)
			}
			m = n
		}
	}
}

// More keys than hold by comparing all of them with each other: neither Sort nor the others take long.
func TestGreat(t *testing.T) {
	l := many(99, 200000)
	m := Sort(7, l)
	for i := 1; i < len(m); i++ {
		if !wantLess(7, m[i-1], m[i]) {
			t.Fatal(i)
		}
	}
	if len(m) != len(l) || !Sorted(7, m) || Sorted(7, l) {
		t.Fatal(len(m))
	}
	if k, ok := First(7, l); k != m[0] || !ok {
		t.Error(k, ok)
	}
	less, errno := Drop(7, m, m[77777].Id)
	if errno != api.OK || !slices.Equal(less[:77777], m[:77777]) || !slices.Equal(less[77777:], m[77778:]) {
		t.Error(errno)
	}
	if back, errno := Put(7, less, m[77777]); errno != api.OK || !slices.Equal(back, m) {
		t.Error(errno)
	}
	if n, errno := Put(7, append(slices.Clone(m), m[0]), m[0]); len(n) != 0 || errno != api.ErrOrder {
		t.Error(len(n), errno)
	}
}

// H4: it is an order: of any two that are not the same just one is less, none is less than itself, and who is less than one that is less than a third one is less than that.
func TestTheoremOfOrder(t *testing.T) {
	for _, min := range mins() {
		l := edges(min)
		for _, a := range l {
			for _, b := range l {
				if a == b && Less(min, a, b) || a != b && Less(min, a, b) == Less(min, b, a) {
					t.Fatalf("by %d: %v and %v", min, a, b)
				}
				if !Less(min, a, b) {
					continue
				}
				for _, c := range l {
					if Less(min, b, c) && !Less(min, a, c) {
						t.Fatalf("by %d: %v, %v and %v", min, a, b, c)
					}
				}
			}
		}
	}
}

// checkTurned holds H4 of all times and min, turned on by the same: what is told is told of the turned ones as well, and is turned itself.
func checkTurned(t *testing.T, min uint64, l []api.Key, k api.Key, more uint64) {
	t.Helper()
	on := turned(l, more)
	if Sorted(min+more, on) != Sorted(min, l) {
		t.Fatalf("Sorted(%d, %v) is another one with %d more", min, l, more)
	}
	if !slices.Equal(Sort(min+more, on), turned(Sort(min, l), more)) {
		t.Fatalf("Sort(%d, %v) is another one with %d more", min, l, more)
	}
	m, errno := Put(min, l, k)
	n, fault := Put(min+more, on, turned([]api.Key{k}, more)[0])
	if errno != fault || !slices.Equal(n, turned(m, more)) {
		t.Fatalf("Put(%d, %v, %v) is another one with %d more", min, l, k, more)
	}
	m, errno = Drop(min, l, k.Id)
	n, fault = Drop(min+more, on, k.Id)
	if errno != fault || !slices.Equal(n, turned(m, more)) {
		t.Fatalf("Drop(%d, %v, %d) is another one with %d more", min, l, k.Id, more)
	}
}

// checkMinTurned holds H4 of min alone, turned on and turned back by more, as long as no lag gets below -2^63, or above 2^63 - 1; l is sorted by min. It tells how many of the two were so.
func checkMinTurned(t *testing.T, min uint64, l []api.Key, more uint64) int {
	t.Helper()
	on, back := true, true
	for _, k := range l {
		on = on && rank(k.V, min) >= more
		back = back && rank(k.V, min) <= top-more
	}
	n := 0
	if on {
		n++
		if !Sorted(min+more, l) {
			t.Fatalf("%v, sorted by %d, is not with %d more", l, min, more)
		}
	}
	if back {
		n++
		if !Sorted(min-more, l) {
			t.Fatalf("%v, sorted by %d, is not with %d less", l, min, more)
		}
	}
	return n
}

// turns are by how much to turn: edges, and ordinary numbers.
func turns() []uint64 {
	l := []uint64{0, 1, 2, 3, 1000, 1 << 50, 1<<62 - 1, 1 << 62, 1<<62 + 1, 1<<63 - 2, 1<<63 - 1, 1 << 63, 1<<63 + 1, 3 << 62, top - 2, top - 1, top}
	next := draw(5)
	for range 20 {
		n := next()
		l = append(l, n, n>>(n&63))
	}
	return l
}

// H4: what is sorted stays so, if all its times and min are turned on by the same.
func TestTheoremOfTurning(t *testing.T) {
	for _, min := range mins() {
		k := func(lag, id int) api.Key { return by(min, lag, id) }
		for _, more := range turns() {
			for _, l := range [][]api.Key{
				nil, {k(0, 3)}, {k(-1, 7), k(0, 3), k(0, 4)}, {k(math.MinInt, 9), k(-1, 8), k(0, 7), k(1, 6), k(math.MaxInt, 5)}, {k(0, 4), k(-1, 7)}, {k(0, 4), k(1, 4)}, many(more, 30), Sort(min, many(more, 30)),
			} {
				for _, x := range []api.Key{k(0, 4), k(math.MinInt, 0), k(math.MaxInt, 99), k(1, 3)} {
					checkTurned(t, min, l, x, more)
				}
			}
		}
	}
}

// H4: what is sorted stays so, if min alone is turned, on or back, as long as no lag gets beyond the least or the greatest one; just there it may not.
func TestTheoremOfMin(t *testing.T) {
	n := 0
	for _, min := range mins() {
		for _, low := range lags() {
			for _, high := range lags() {
				if low >= high {
					continue
				}
				l := []api.Key{by(min, low, 4), by(min, low, 5), by(min, high-1, 9), by(min, high, 3)}
				if low == high-1 {
					l = []api.Key{l[0], l[1], l[3]}
				}
				for _, more := range turns() {
					n += checkMinTurned(t, min, l, more)
				}
				checkMinEdges(t, min, l)
			}
		}
		for seed := range uint64(20) {
			l := Sort(min, many(seed, 20))
			for i, more := range turns() {
				n += checkMinTurned(t, min, l, more)
				n += checkMinTurned(t, min, l[i%20:], more) // fewer lags, that leave more room
				n += checkMinTurned(t, min, l[:i%20], more)
			}
		}
	}
	if n < 1000 {
		t.Errorf("just %d turns of min held against the theorem", n)
	}
}

// checkMinEdges holds that l, sorted by min, is so till its first lag is the least one, or its last one the greatest, and no more with min turned one on from there.
func checkMinEdges(t *testing.T, min uint64, l []api.Key) {
	t.Helper()
	room, above := rank(l[0].V, min), top-rank(l[len(l)-1].V, min)
	if n := checkMinTurned(t, min, l, room); n < 1 || Sorted(min+room+1, l) {
		t.Fatalf("%v, sorted by %d, with %d more", l, min, room)
	}
	if n := checkMinTurned(t, min, l, above); n < 1 || Sorted(min-above-1, l) {
		t.Fatalf("%v, sorted by %d, with %d less", l, min, above)
	}
}

// FuzzKey holds all promises against the words of the chapter, at whatever numbers.
func FuzzKey(f *testing.F) {
	f.Add(top-4, top, 7, uint64(0), 3, uint64(0), 4, uint64(9))
	f.Add(uint64(0), uint64(1<<63), math.MinInt, uint64(1<<63-1), math.MaxInt, uint64(5), 5, top)
	f.Add(top, uint64(0), 0, top, 0, top-1, 0, uint64(1<<63))
	f.Fuzz(func(t *testing.T, min, v uint64, id int, v2 uint64, id2 int, v3 uint64, id3 int, more uint64) {
		a, b, c := api.Key{V: v, Id: id}, api.Key{V: v2, Id: id2}, api.Key{V: v3, Id: id3}
		checkLess(t, min, a, b)
		checkLess(t, min, b, api.Key{V: v2, Id: id3})
		for _, l := range [][]api.Key{{a}, {a, b}, {b, a}, {b, a, b}, {a, {V: v2, Id: id}}, Sort(min, []api.Key{a, b}), Sort(min, append(many(more, 9), a, b))} {
			checkAll(t, min, l, c)
			checkAll(t, min, l, a)
			checkTurned(t, min, l, c, more)
			if Sorted(min, l) {
				checkMinTurned(t, min, l, more)
				checkMinTurned(t, min, l, more>>(more&63))
			}
		}
	})
}
