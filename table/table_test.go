package table

import (
	"testing"

	"turnspit/api"
)

// The chapter's example.
func TestExample(t *testing.T) {
	x, errno := New(2)
	if errno != api.OK {
		t.Fatal(errno)
	}
	var first api.Handle
	for _, want := range []api.Handle{{Slot: 0, Gen: 1}, {Slot: 1, Gen: 1}, {Slot: 0, Gen: 2}} {
		var h api.Handle
		if x, h, errno = Create(x, 4, 0, 1); h != want || errno != api.OK {
			t.Fatal(h, errno, want)
		}
		if want.Slot == 1 {
			if x, errno = Exit(x, first); errno != api.OK {
				t.Fatal(errno)
			}
		} else if want.Gen == 1 {
			first = h
		}
	}
	if errno = Check(x, first); errno != api.ErrStale {
		t.Fatal(errno)
	}
}

// O1: New.
func TestNew(t *testing.T) {
	for _, n := range []int{0, 1, 2, 63, 64} {
		x, errno := New(n)
		if want := (api.Table{Words: make([]uint64, n), Tasks: make([]api.Task, n)}); !sameTable(x, want) || errno != api.OK {
			t.Fatal(n, x, errno)
		}
		checkLooks(t, x, true, nil)
		spoil(x)
		if y, _ := New(n); !Right(y) || len(Live(y)) != 0 {
			t.Fatal(n, y)
		}
	}
	for _, n := range []int{least, least + 1, -1 << 32, -65, -64, -2, -1, 65, 66, 128, 1 << 32, 1<<32 + 1, 1 << 62, greatest - 1, greatest} {
		if x, errno := New(n); len(x.Words)+len(x.Tasks) != 0 || errno != api.ErrArg {
			t.Fatal(n, x, errno)
		}
	}
}

// O1: tables that are right, at the edges of each part of that word.
func TestRight(t *testing.T) {
	var l []api.Table
	l = append(l, api.Table{}, api.Table{Words: []uint64{}, Tasks: []api.Task{}}, api.Table{Words: []uint64{}}, api.Table{Tasks: []api.Task{}})
	l = append(l, many(0), many(1), many(2), many(63), many(64), tableOf(kinds()...))
	for _, p := range kinds() {
		if p.kind == api.Free {
			continue
		}
		for _, x := range []api.Task{
			{Mask: 1}, {Mask: every}, {Mask: 1 << 63}, {Mask: 5, Lag: 3}, {Mask: 5, Lag: -3},
			{Nice: -20, Mask: 1}, {Nice: -19, Mask: 1}, {Nice: -1, Mask: 1}, {Nice: 1, Mask: 1}, {Nice: 18, Mask: 1}, {Nice: 19, Mask: 1},
			{Mask: 1, Lag: lag}, {Mask: 1, Lag: -lag}, {Mask: 1, Lag: lag - 1}, {Mask: 1, Lag: 1 - lag}, {Nice: 19, Mask: every, Lag: -lag}, {Nice: -20, Mask: 1 << 63, Lag: lag},
		} {
			l = append(l, one(p.word(), x), with(many(64), 40, p, x))
		}
	}
	for _, p := range []parts{{}, {gen: 1}, {gen: lastGen}, {cpu: 63}, {seq: 1}, {cpu: 63, seq: 65535, gen: lastGen}} {
		l = append(l, one(p.word(), api.Task{})) // of a Free word the other parts are whatever they are
	}
	for _, x := range l {
		if !Right(x) {
			t.Fatalf("Right(%v)", x)
		}
		checkOf(t, x)
	}
}

// O1: tables that are not right: of each nothing can be done, and O2 and O5's Live are told nevertheless.
func TestNotRight(t *testing.T) {
	order := told{errno: api.ErrOrder}
	for i, x := range wrong() {
		if Right(x) {
			t.Fatalf("Right(%v), %d", x, i)
		}
		checkOf(t, x)
		for _, slot := range []int{-1, 0, 1, 9, 64, greatest} {
			for _, cpu := range []int{-1, 0, 1, 64, 65} {
				checkCreate(t, x, cpu, 0, 1, order)
				checkCreate(t, x, cpu, 20, 0, order)
				checkExit(t, x, api.Handle{Slot: slot, Gen: cpu}, order)
				for _, event := range []int{-1, api.EvCreate, api.EvExit, api.EvClaim, api.EvRun, 16} {
					checkStep(t, x, slot, event, cpu, order)
				}
			}
		}
	}
}

// O1: each one field beyond its edges, of each kind, and at each slot.
func TestRightFields(t *testing.T) {
	for _, p := range kinds() {
		for _, n := range []int{least, -lag - 1, -lag, -21, -20, -1, 0, 1, 19, 20, lag, lag + 1, 1 << 62, greatest} {
			for _, x := range []api.Task{{Nice: n}, {Lag: n}, {Mask: uint64(n)}, {Nice: n, Mask: 1}, {Lag: n, Mask: 1}, {Nice: n, Mask: 1, Lag: n}} {
				u := one(p.word(), x)
				checkLooks(t, u, wantRight(u), wantLive(u))
				for _, slot := range []int{0, 31, 63} {
					u := with(many(64), slot, p, x)
					checkLooks(t, u, wantRight(u), wantLive(u))
				}
			}
		}
	}
	for bit := range 64 {
		for _, p := range kinds() {
			for _, x := range []api.Task{{}, some()} {
				u := one(p.word()^1<<bit, x)
				checkLooks(t, u, wantRight(u), wantLive(u))
			}
		}
	}
}

// O2: Check.
func TestCheck(t *testing.T) {
	x := tableOf(parts{api.Asleep, 0, 0, 1}, parts{api.Free, 0, 0, 3}, parts{api.Running, 63, 65535, lastGen}, parts{api.Asleep, 0, 0, 0})
	for _, y := range []struct {
		h    api.Handle
		want api.Errno
	}{
		{api.Handle{Slot: 0, Gen: 1}, api.OK}, {api.Handle{Slot: 0, Gen: 0}, api.ErrStale}, {api.Handle{Slot: 0, Gen: 2}, api.ErrStale}, {api.Handle{Slot: 0, Gen: -1}, api.ErrStale}, {api.Handle{Slot: 0, Gen: 1<<32 + 1}, api.ErrStale}, {api.Handle{Slot: 0, Gen: least}, api.ErrStale}, {api.Handle{Slot: 0, Gen: greatest}, api.ErrStale},
		{api.Handle{Slot: 1, Gen: 3}, api.ErrStale}, {api.Handle{Slot: 1, Gen: 2}, api.ErrStale}, {api.Handle{Slot: 1, Gen: 0}, api.ErrStale}, {api.Handle{Slot: 1, Gen: 4}, api.ErrStale},
		{api.Handle{Slot: 2, Gen: lastGen}, api.OK}, {api.Handle{Slot: 2, Gen: lastGen - 1}, api.ErrStale}, {api.Handle{Slot: 2, Gen: lastGen + 1}, api.ErrStale}, {api.Handle{Slot: 2, Gen: -1}, api.ErrStale},
		{api.Handle{Slot: 3, Gen: 0}, api.OK}, {api.Handle{Slot: 3, Gen: 1}, api.ErrStale}, {api.Handle{Slot: 3, Gen: 1 << 32}, api.ErrStale},
		{api.Handle{Slot: 4, Gen: 0}, api.ErrArg}, {api.Handle{Slot: -1, Gen: 0}, api.ErrArg}, {api.Handle{Slot: 4, Gen: 1}, api.ErrArg}, {api.Handle{Slot: -1, Gen: 1}, api.ErrArg}, {api.Handle{Slot: 64, Gen: 1}, api.ErrArg}, {api.Handle{Slot: least, Gen: least}, api.ErrArg}, {api.Handle{Slot: greatest, Gen: greatest}, api.ErrArg}, {api.Handle{Slot: 1 << 32, Gen: 1}, api.ErrArg},
	} {
		checkCheck(t, x, y.h, y.want)
		// The tasks are nothing to it: of any table.
		checkCheck(t, api.Table{Words: x.Words}, y.h, y.want)
		checkCheck(t, api.Table{Words: x.Words, Tasks: make([]api.Task, 9)}, y.h, y.want)
	}
	checkCheck(t, api.Table{Tasks: []api.Task{some()}}, api.Handle{Slot: 0, Gen: 0}, api.ErrArg)
	checkCheck(t, api.Table{}, api.Handle{}, api.ErrArg)
	// A word of a long table, or one that is no state's.
	long := many(1000)
	checkCheck(t, long, api.Handle{Slot: 999, Gen: 1000}, api.OK)
	checkCheck(t, long, api.Handle{Slot: 998, Gen: 999}, api.ErrStale)
	checkCheck(t, long, api.Handle{Slot: 1000, Gen: 1000}, api.ErrArg)
	checkCheck(t, one(1<<60|1<<26|3, some()), api.Handle{Slot: 0, Gen: 1}, api.OK)
	checkCheck(t, one(1<<60|1<<26|512|3, some()), api.Handle{Slot: 0, Gen: 2}, api.ErrStale)
}

// O3: who comes, where, and as what.
func TestCreate(t *testing.T) {
	free, left := parts{}, parts{gen: 7}
	asleep := parts{api.Asleep, 9, 5, 2}
	for _, y := range []struct {
		of         api.Table
		cpus, nice int
		m          uint64
		slot       int
		p          parts
		x          api.Task
	}{
		{tableOf(free), 1, 0, 1, 0, parts{api.Asleep, 0, 0, 1}, api.Task{Mask: 1}},
		{tableOf(free), 1, 0, every, 0, parts{api.Asleep, 0, 0, 1}, api.Task{Mask: 1}},
		{tableOf(free), 64, 0, every, 0, parts{api.Asleep, 0, 0, 1}, api.Task{Mask: every}},
		{tableOf(free), 64, 0, 1 << 63, 0, parts{api.Asleep, 63, 0, 1}, api.Task{Mask: 1 << 63}},
		{tableOf(free), 63, 0, 1<<62 + 1<<63, 0, parts{api.Asleep, 62, 0, 1}, api.Task{Mask: 1 << 62}},
		{tableOf(free), 4, -3, 0xfc, 0, parts{api.Asleep, 2, 0, 1}, api.Task{Nice: -3, Mask: 12}},
		{tableOf(free), 3, 0, 0xfc, 0, parts{api.Asleep, 2, 0, 1}, api.Task{Mask: 4}},
		{tableOf(free), 2, -20, 6, 0, parts{api.Asleep, 1, 0, 1}, api.Task{Nice: -20, Mask: 2}},
		{tableOf(free), 2, 19, 3, 0, parts{api.Asleep, 0, 0, 1}, api.Task{Nice: 19, Mask: 3}},
		{tableOf(left, free), 4, 1, 8, 0, parts{api.Asleep, 3, 0, 8}, api.Task{Nice: 1, Mask: 8}},
		{tableOf(asleep, left, free), 4, 1, 8, 1, parts{api.Asleep, 3, 0, 8}, api.Task{Nice: 1, Mask: 8}},
		{tableOf(asleep, asleep, asleep, free), 4, 1, 8, 3, parts{api.Asleep, 3, 0, 1}, api.Task{Nice: 1, Mask: 8}},
		{tableOf(parts{api.Free, 63, 65535, 4}, free), 4, 1, 8, 0, parts{api.Asleep, 3, 0, 5}, api.Task{Nice: 1, Mask: 8}},
		{tableOf(parts{gen: lastGen - 1}, free), 4, 0, 1, 0, parts{api.Asleep, 0, 0, lastGen}, api.Task{Mask: 1}},
		{tableOf(parts{gen: lastGen}, free), 4, 0, 1, 1, parts{api.Asleep, 0, 0, 1}, api.Task{Mask: 1}},
		{tableOf(parts{gen: lastGen}, asleep, parts{gen: lastGen - 1}, free), 4, 0, 1, 2, parts{api.Asleep, 0, 0, lastGen}, api.Task{Mask: 1}},
		{tableOf(append(kinds()[1:], left)...), 4, 0, 1, 8, parts{api.Asleep, 0, 0, 8}, api.Task{Mask: 1}},
		{many(64), 64, 5, every - 1, 0, parts{api.Asleep, 1, 0, 2}, api.Task{Nice: 5, Mask: every - 1}},
	} {
		want := told{t: with(y.of, y.slot, y.p, y.x), h: api.Handle{Slot: y.slot, Gen: y.p.gen}}
		if !wantCreate(y.of, y.cpus, y.nice, y.m).equal(want) {
			t.Fatal("the test's own words are wrong", y)
		}
		checkCreate(t, y.of, y.cpus, y.nice, y.m, want)
	}
}

// O3: what may not be, and what has no room; ErrArg ahead of ErrFull.
func TestCreateErrors(t *testing.T) {
	arg, full := told{errno: api.ErrArg}, told{errno: api.ErrFull}
	last := parts{gen: lastGen}
	none, _ := New(0)
	fulls := []api.Table{{}, none, tableOf(kinds()[1:]...), tableOf(last), tableOf(last, last), tableOf(kinds()[1], last, kinds()[5]), tableOf(parts{api.Asleep, 0, 0, lastGen})}
	all := make([]parts, 64)
	for i := range all {
		all[i] = kinds()[1+i%8]
	}
	fulls = append(fulls, tableOf(all...))
	for _, x := range fulls {
		checkCreate(t, x, 4, 0, 1, full)
		checkCreate(t, x, 64, 19, 1<<63, full)
		checkCreate(t, x, 1, -20, 1, full)
	}
	rooms := []api.Table{tableOf(parts{}), many(64), tableOf(kinds()...)}
	for _, x := range append(rooms, fulls...) {
		for _, cpus := range []int{least, -64, -1, 0, 65, 66, 128, 1 << 32, 1<<32 + 4, greatest} {
			checkCreate(t, x, cpus, 0, every, arg)
			checkCreate(t, x, cpus, 0, 1, arg)
			checkCreate(t, x, cpus, -21, 0, arg)
		}
		for _, nice := range []int{least, -1 << 32, -22, -21, 20, 21, 1 << 32, greatest} {
			checkCreate(t, x, 4, nice, 1, arg)
			checkCreate(t, x, 64, nice, every, arg)
		}
		for cpus := range 65 {
			checkCreate(t, x, cpus, 0, 0, arg)
			checkCreate(t, x, cpus, 0, every<<cpus, arg) // those at cpus and above alone
			checkCreate(t, x, cpus, 0, 1<<cpus, arg)
		}
	}
}

// O3: each number of CPUs, and masks of one, of two and of all.
func TestCreateCpus(t *testing.T) {
	x := tableOf(kinds()...)
	for cpus := 1; cpus <= 64; cpus++ {
		for c := range 64 {
			for _, m := range []uint64{1 << c, every << c, every >> c, 1<<c | 1<<(63-c), every &^ (1 << c)} {
				checkCreate(t, x, cpus, c%40-20, m, wantCreate(x, cpus, c%40-20, m))
			}
		}
	}
}

// O4: who goes, and who can't.
func TestExit(t *testing.T) {
	for i, p := range kinds() {
		x := tableOf(kinds()...)
		h := api.Handle{Slot: i, Gen: 2}
		want := told{errno: api.ErrOrder}
		switch p.kind {
		case api.Free:
			want.errno = api.ErrStale
		case api.Asleep, api.Listed, api.Queued, api.Running:
			want = told{t: with(x, i, parts{gen: 2}, api.Task{})}
		}
		if !wantExit(x, h).equal(want) {
			t.Fatal("the test's own words are wrong", p)
		}
		checkExit(t, x, h, want)
		checkExit(t, tableOf(p), api.Handle{Slot: 0, Gen: 2}, wantExit(tableOf(p), api.Handle{Slot: 0, Gen: 2}))
		for _, gen := range []int{least, -2, 0, 1, 3, 1<<32 + 2, greatest} {
			checkExit(t, x, api.Handle{Slot: i, Gen: gen}, told{errno: api.ErrStale}) // ErrStale ahead of ErrOrder
		}
		for _, slot := range []int{least, -1, len(x.Words), len(x.Words) + 1, 64, greatest} {
			checkExit(t, x, api.Handle{Slot: slot, Gen: 2}, told{errno: api.ErrArg})
		}
	}
	checkExit(t, api.Table{}, api.Handle{}, told{errno: api.ErrArg})
	checkExit(t, many(64), api.Handle{Slot: 63, Gen: 64}, told{t: with(many(64), 63, parts{gen: 64}, api.Task{})})
	checkExit(t, many(64), api.Handle{Slot: 62, Gen: 63}, told{errno: api.ErrStale})
	last := tableOf(parts{api.Running, 63, 65535, lastGen})
	checkExit(t, last, api.Handle{Slot: 0, Gen: lastGen}, told{t: tableOf(parts{gen: lastGen})})
}

// O5: words behind events.
func TestStep(t *testing.T) {
	for _, y := range []struct {
		kind, event int
		p           parts
	}{
		{api.Asleep, api.EvClaim, parts{api.Waking, 9, 6, 2}}, {api.Waking, api.EvList, parts{api.Listed, 9, 5, 2}}, {api.Waking, api.EvPlace, parts{api.Queued, 9, 5, 2}}, {api.Listed, api.EvPlace, parts{api.Queued, 9, 5, 2}},
		{api.Queued, api.EvRun, parts{api.Running, 9, 5, 2}}, {api.Running, api.EvPut, parts{api.Queued, 9, 5, 2}}, {api.Running, api.EvBlock, parts{api.Blocking, 9, 5, 2}}, {api.Blocking, api.EvNote, parts{noted, 9, 5, 2}},
		{api.Blocking, api.EvSleep, parts{api.Asleep, 9, 5, 2}}, {noted, api.EvRelist, parts{api.Listed, 9, 5, 2}}, {api.Running, api.EvRest, parts{api.Asleep, 4, 5, 2}}, {api.Asleep, api.EvShift, parts{api.Asleep, 4, 5, 2}},
		{api.Queued, api.EvTake, parts{api.Moving, 4, 5, 2}}, {api.Running, api.EvTake, parts{api.Moving, 4, 5, 2}}, {api.Moving, api.EvLand, parts{api.Queued, 9, 5, 2}}, {api.Queued, api.EvMove, parts{api.Queued, 4, 5, 2}},
	} {
		x := tableOf(kinds()...)
		// The task of the slot, and all other slots, stay as they are.
		checkStep(t, x, y.kind, y.event, 4, told{t: with(x, y.kind, y.p, some())})
	}
}

// O5: each event at each kind of word, on CPUs that are and that are none, and at slots that are none.
func TestStepOfAll(t *testing.T) {
	x := tableOf(kinds()...)
	for event := range 18 {
		for _, cpu := range []int{least, -1, 0, 9, 63, 64, greatest} {
			for slot := range kinds() {
				want := wantStep(x, slot, event-1, cpu)
				if cpu < 0 || cpu > 63 || event-1 < 2 || event-1 > 15 {
					want = told{errno: api.ErrArg}
				}
				checkStep(t, x, slot, event-1, cpu, want)
			}
			for _, slot := range []int{least, -1, len(x.Words), len(x.Words) + 1, 64, greatest} {
				checkStep(t, x, slot, event-1, cpu, told{errno: api.ErrArg})
			}
			checkStep(t, api.Table{}, 0, event-1, cpu, told{errno: api.ErrArg})
		}
	}
	for _, event := range []int{least, -16, -2, 17, 1 << 32, 1<<32 + 2, greatest} {
		checkStep(t, x, 1, event, 0, told{errno: api.ErrArg})
	}
	u := many(64)
	checkStep(t, u, 63, api.EvClaim, 0, told{t: with(u, 63, parts{api.Waking, 0, 1, 64}, some())})
	checkStep(t, u, 62, api.EvClaim, 0, told{errno: api.ErrOrder})
	checkStep(t, u, 64, api.EvClaim, 0, told{errno: api.ErrArg})
}

// O5: who is live.
func TestLive(t *testing.T) {
	x := tableOf(kinds()...)
	var l []api.Handle
	for slot := 1; slot < 9; slot++ {
		l = append(l, api.Handle{Slot: slot, Gen: 2})
	}
	checkLooks(t, x, true, l)
	checkLooks(t, api.Table{Words: x.Words}, false, l)
	checkLooks(t, api.Table{Words: x.Words, Tasks: make([]api.Task, 20)}, false, l)
	checkLooks(t, api.Table{Tasks: x.Tasks}, false, nil)
	checkLooks(t, many(64), true, []api.Handle{{Slot: 63, Gen: 64}})
	checkLooks(t, many(1000), false, []api.Handle{{Slot: 999, Gen: 1000}})
	checkLooks(t, tableOf(parts{gen: 5}, parts{gen: lastGen}), true, nil)
	checkLooks(t, tableOf(parts{api.Waking, 0, 0, lastGen}, parts{api.Asleep, 0, 0, 0}), true, []api.Handle{{Slot: 0, Gen: lastGen}, {Slot: 1, Gen: 0}})
	// Words that are no state's have a Kind and a Gen, too.
	checkLooks(t, api.Table{Words: []uint64{1 << 58, 1<<63 | 3<<26 | 1, 1<<64 - 1, 512, 512 | 1<<26 | 4}}, false, []api.Handle{{Slot: 1, Gen: 3}, {Slot: 2, Gen: lastGen}, {Slot: 4, Gen: 1}})
}
