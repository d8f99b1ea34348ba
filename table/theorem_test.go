package table

import (
	"slices"
	"testing"

	"turnspit/api"
)

// drawnParts tells those of a word: of whatever kind, and often at the edges of the others.
func drawnParts(next func() uint64) parts {
	p := parts{int(next() % 9), int(next() % 64), int(next() % 65536), int(next() >> (32 + next()%32))}
	if next()%8 == 0 {
		p.gen = lastGen - int(next()%2)
	}
	if next()%4 == 0 {
		p.kind = api.Free
	}
	return p
}

// drawnTask tells one that may be of a word that is not Free.
func drawnTask(next func() uint64) api.Task {
	return api.Task{Nice: int(next()%40) - 20, Mask: next() | 1<<(next()%64), Lag: int(next()%(2*lag+1)) - lag}
}

// drawnTable tells one of n slots that is right.
func drawnTable(next func() uint64, n int) api.Table {
	var t api.Table
	for range n {
		p := drawnParts(next)
		x := drawnTask(next)
		if p.kind == api.Free {
			x = api.Task{}
		}
		t.Words, t.Tasks = append(t.Words, p.word()), append(t.Tasks, x)
	}
	return t
}

// harmed tells t with one thing about it changed.
func harmed(next func() uint64, t api.Table) api.Table {
	u := clone(t)
	if len(u.Words) == 0 {
		return api.Table{Words: make([]uint64, next()%2), Tasks: make([]api.Task, next()%70)}
	}
	at := next() % uint64(len(u.Words))
	switch next() % 6 {
	case 0:
		u.Words[at] ^= 1 << (next() % 64)
	case 1:
		u.Tasks[at].Nice = int(next()) >> (next() % 64)
	case 2:
		u.Tasks[at].Lag = int(next()) >> (next() % 64)
	case 3:
		u.Tasks[at].Mask = next() % 2
	case 4:
		u.Tasks = u.Tasks[:at]
	case 5:
		u.Words = u.Words[:at]
	}
	return u
}

// O1 to O5: tables that are drawn, and harmed ones.
func TestDrawn(t *testing.T) {
	next := draw(1)
	right := 0
	for range 3000 {
		base := drawnTable(next, int(next()%66))
		for x, n := base, 0; n < 3; x, n = harmed(next, base), n+1 {
			slot := int(next()%uint64(len(x.Words)+2)) - 1
			gen := int(next() % 3)
			if slot >= 0 && slot < len(x.Words) && next()%4 > 0 {
				gen = int(x.Words[slot] >> 26 & lastGen)
			}
			checkCalls(t, x, slot, gen, int(next()%18)-1, int(next()%68)-1, int(next()%42)-21, next()&next()&next())
			checkLooks(t, x, wantRight(x), wantLive(x))
			if wantRight(x) {
				right++
			}
		}
	}
	if right < 4000 || right > 8000 {
		t.Fatal("hardly any are right, or wrong", right)
	}
}

// row is a table that calls are made on, one behind the other, and what was told of it.
type row struct {
	x    api.Table
	live []api.Handle
	gone []api.Handle
	seen map[api.Handle]int
}

// create makes one more, and holds that its handle was never told.
func (r *row) create(t *testing.T, next func() uint64) api.Errno {
	t.Helper()
	cpus := 1 + int(next()%64)
	u, h, errno := Create(r.x, cpus, int(next()%40)-20, next()|1<<(next()%uint64(cpus)))
	if errno != api.OK {
		return errno
	}
	if r.seen[h] > 0 {
		t.Fatalf("%v is told twice", h)
	}
	r.seen[h]++
	r.x, r.live = u, append(r.live, h)
	return errno
}

// exit has one of those that are live go, if it can.
func (r *row) exit(i int) api.Errno {
	u, errno := Exit(r.x, r.live[i])
	if errno == api.OK {
		r.x, r.gone = u, append(r.gone, r.live[i])
		r.live = slices.Delete(r.live, i, i+1)
	}
	return errno
}

// step has one go through some event, if it can.
func (r *row) step(slot, event, cpu int) api.Errno {
	u, errno := Step(r.x, slot, event, cpu)
	if errno == api.OK {
		r.x = u
	}
	return errno
}

// check holds O6: the table is right, just those are live that came and have not gone, and those that have gone are stale.
func (r *row) check(t *testing.T) {
	t.Helper()
	if !Right(r.x) {
		t.Fatalf("%v is not right", r.x)
	}
	want := slices.SortedFunc(slices.Values(r.live), func(a, b api.Handle) int { return a.Slot - b.Slot })
	if l := Live(r.x); !slices.Equal(l, want) {
		t.Fatalf("live are %v; want %v", l, want)
	}
	for _, h := range r.live {
		if errno := Check(r.x, h); errno != api.OK {
			t.Fatalf("%v is live: %d", h, errno)
		}
	}
	for _, h := range r.gone {
		if errno := Check(r.x, h); errno != api.ErrStale {
			t.Fatalf("%v has gone: %d", h, errno)
		}
		if u, errno := Exit(r.x, h); errno != api.ErrStale || len(u.Words)+len(u.Tasks) > 0 {
			t.Fatalf("%v has gone, and goes: %d", h, errno)
		}
	}
	if len(r.gone) > 100 {
		r.gone = r.gone[1:]
	}
}

// newRow tells one of n slots that nobody took yet.
func newRow(t *testing.T, n int) *row {
	t.Helper()
	x, errno := New(n)
	if errno != api.OK {
		t.Fatal(errno)
	}
	return &row{x: x, seen: map[api.Handle]int{}}
}

// O6: long rows of calls.
func TestTheorem(t *testing.T) {
	next := draw(2)
	for _, n := range []int{0, 1, 2, 3, 5, 17, 64} {
		r := newRow(t, n)
		var came, went, stepped, full int
		for range 4000 {
			switch k := next() % 8; {
			case k == 0:
				switch r.create(t, next) {
				case api.OK:
					came++
				case api.ErrFull:
					if len(r.live) < n {
						t.Fatal("there is room", r.x)
					}
					full++
				}
			case k == 1 && len(r.live) > 0:
				if r.exit(int(next()%uint64(len(r.live)))) == api.OK {
					went++
				}
			default:
				if r.step(int(next()%uint64(n+2))-1, int(next()%16), int(next()%64)) == api.OK {
					stepped++
				}
			}
			r.check(t)
		}
		if n > 0 && n < 64 && (came < 150 || went < 100 || stepped < 20 || full < 10) {
			t.Fatal("hardly anything was done", n, came, went, stepped, full)
		}
	}
}

// O6: a slot is taken as often as it may be, and no more: no handle comes again.
func TestTheoremAtTheEnd(t *testing.T) {
	x := tableOf(parts{gen: lastGen - 3}, parts{gen: lastGen - 1}, parts{gen: lastGen})
	var told []api.Handle
	for {
		u, h, errno := Create(x, 1, 0, 1)
		if errno == api.ErrFull {
			break
		}
		told = append(told, h)
		for _, old := range told[:len(told)-1] {
			if e := Check(u, old); e != api.ErrStale {
				t.Fatal(old, e)
			}
		}
		if x, errno = Exit(u, h); errno != api.OK {
			t.Fatal(errno)
		}
	}
	if want := []api.Handle{{Slot: 0, Gen: lastGen - 2}, {Slot: 0, Gen: lastGen - 1}, {Slot: 0, Gen: lastGen}, {Slot: 1, Gen: lastGen}}; !slices.Equal(told, want) {
		t.Fatal(told)
	}
	if !Right(x) || len(Live(x)) > 0 {
		t.Fatal(x)
	}
}

// O6: whatever comes of whatever right table is right, or an error tells nothing beside it.
func TestTheoremOfDrawn(t *testing.T) {
	next := draw(3)
	for range 400 {
		x := drawnTable(next, int(next()%65))
		for range 40 {
			u, _, errno := Create(x, int(next()%66), int(next()%42)-21, next()&next())
			if next()%2 == 0 {
				u, errno = Step(x, int(next()%64), int(next()%16), int(next()%65))
			}
			if l := Live(x); next()%8 == 0 && len(l) > 0 {
				u, errno = Exit(x, l[next()%uint64(len(l))])
			}
			if errno != api.OK {
				if len(u.Words)+len(u.Tasks) > 0 {
					t.Fatal(u, errno)
				}
				continue
			}
			if !Right(u) || len(u.Words) != len(x.Words) {
				t.Fatalf("%v came of %v", u, x)
			}
			x = u
		}
	}
}

// FuzzTable holds O1 to O5 of whatever comes, and that what comes of a right table is right.
func FuzzTable(f *testing.F) {
	f.Add(uint64(1), 3, 0, 1, 2, 4, 0, uint64(1))
	f.Add(uint64(2), 64, 63, lastGen, 15, 64, -20, every)
	f.Add(uint64(3), 65, -1, -1, -1, -1, 20, uint64(0))
	f.Fuzz(func(t *testing.T, seed uint64, n, slot, gen, event, cpu, nice int, m uint64) {
		next := draw(seed)
		base := drawnTable(next, int(uint(n)%67))
		for x, k := base, 0; k < 3; x, k = harmed(next, base), k+1 {
			checkOf(t, x)
			checkCalls(t, x, slot, gen, event, cpu, nice, m)
			for _, h := range Live(x) {
				checkCalls(t, x, h.Slot, h.Gen, event&15, cpu&63, nice, m)
			}
			if u, _, errno := Create(x, cpu, nice, m); errno == api.OK && !Right(u) {
				t.Fatal(u)
			}
		}
	})
}
