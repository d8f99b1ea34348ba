package table

import (
	"math"
	"slices"
	"testing"

	"turnspit/api"
)

const (
	least    = math.MinInt
	greatest = math.MaxInt
	lastGen  = 1<<32 - 1
	lag      = 1 << 50 // the greatest one
)

// every is a mask that has all CPUs.
const every uint64 = 1<<64 - 1

// draw tells a row of numbers that looks like chance, and is the same each time.
func draw(seed uint64) func() uint64 {
	x := seed
	return func() uint64 {
		x += 0x9e3779b97f4a7c15
		z := x
		z = (z ^ z>>30) * 0xbf58476d1ce4e5b9
		z = (z ^ z>>27) * 0x94d049bb133111eb
		return z ^ z>>31
	}
}

// some is a task that may be.
func some() api.Task { return api.Task{Nice: -3, Mask: 12, Lag: 7} }

// tableOf tells a table of words of these parts, each but Free ones with some task.
func tableOf(l ...parts) api.Table {
	var t api.Table
	for _, p := range l {
		x := some()
		if p.kind == api.Free {
			x = api.Task{}
		}
		t.Words = append(t.Words, p.word())
		t.Tasks = append(t.Tasks, x)
	}
	return t
}

// one tells a table of a slot, with that word and that task.
func one(w uint64, x api.Task) api.Table {
	return api.Table{Words: []uint64{w}, Tasks: []api.Task{x}}
}

// with tells a table that is like t but for that slot's word and task.
func with(t api.Table, slot int, p parts, x api.Task) api.Table {
	u := clone(t)
	u.Words[slot], u.Tasks[slot] = p.word(), x
	return u
}

// guarded tells t with more behind its lengths, and a function that says whether all of that is as it was.
func guarded(t api.Table) (api.Table, func() bool) {
	words := append(slices.Clone(t.Words), 4711, 67108865, 0)
	tasks := append(slices.Clone(t.Tasks), some(), api.Task{}, api.Task{Nice: 99})
	was := clone(api.Table{Words: words, Tasks: tasks})
	n, k := len(t.Words), len(t.Tasks)
	return api.Table{Words: words[:n], Tasks: tasks[:k]}, func() bool {
		return slices.Equal(words, was.Words) && slices.Equal(tasks, was.Tasks)
	}
}

// spoil writes into all of t, also behind its lengths.
func spoil(t api.Table) {
	for i := range t.Words[:cap(t.Words)] {
		t.Words[:cap(t.Words)][i] = 1<<63 + 5
	}
	for i := range t.Tasks[:cap(t.Tasks)] {
		t.Tasks[:cap(t.Tasks)][i] = api.Task{Nice: -99, Mask: 5, Lag: 3}
	}
}

// checkTwice holds what do tells of t against that, twice, and that nothing is written into, also not by who writes into what is told.
func checkTwice(t *testing.T, name string, of api.Table, args any, want told, do func(x api.Table) told) {
	t.Helper()
	in, kept := guarded(of)
	for range 2 {
		got := do(in)
		if !got.equal(want) {
			t.Fatalf("%s of %v, %v: %v; want %v", name, of, args, got, want)
		}
		spoil(got.t)
		if !kept() {
			t.Fatalf("%s of %v, %v wrote into it", name, of, args)
		}
	}
}

// checkCreate holds Create against that.
func checkCreate(t *testing.T, of api.Table, cpus, nice int, m uint64, want told) {
	t.Helper()
	checkTwice(t, "Create", of, []any{cpus, nice, m}, want, func(x api.Table) told {
		u, h, errno := Create(x, cpus, nice, m)
		return told{u, h, errno}
	})
}

// checkExit holds Exit against that.
func checkExit(t *testing.T, of api.Table, h api.Handle, want told) {
	t.Helper()
	checkTwice(t, "Exit", of, h, want, func(x api.Table) told {
		u, errno := Exit(x, h)
		return told{t: u, errno: errno}
	})
}

// checkStep holds Step against that.
func checkStep(t *testing.T, of api.Table, slot, event, cpu int, want told) {
	t.Helper()
	checkTwice(t, "Step", of, []int{slot, event, cpu}, want, func(x api.Table) told {
		u, errno := Step(x, slot, event, cpu)
		return told{t: u, errno: errno}
	})
}

// checkCheck holds Check against that.
func checkCheck(t *testing.T, of api.Table, h api.Handle, want api.Errno) {
	t.Helper()
	checkTwice(t, "Check", of, h, told{errno: want}, func(x api.Table) told { return told{errno: Check(x, h)} })
}

// checkLooks holds Right and Live against these, twice, and that nothing is written into.
func checkLooks(t *testing.T, of api.Table, right bool, live []api.Handle) {
	t.Helper()
	in, kept := guarded(of)
	for range 2 {
		if got := Right(in); got != right {
			t.Fatalf("Right(%v): %t", of, got)
		}
		l := Live(in)
		if !slices.Equal(l, live) {
			t.Fatalf("Live(%v): %v; want %v", of, l, live)
		}
		for i := range l[:cap(l)] {
			l[:cap(l)][i] = api.Handle{Slot: 99, Gen: 99}
		}
		if !kept() {
			t.Fatalf("Right or Live of %v wrote into it", of)
		}
	}
}

// checkOf holds Right, Live and Check of t against the chapter's words, the last one at each slot and at what is none.
func checkOf(t *testing.T, of api.Table) {
	t.Helper()
	checkLooks(t, of, wantRight(of), wantLive(of))
	slots := []int{least, -1, len(of.Words), len(of.Words) + 1, greatest, 1 << 32}
	for slot := range of.Words {
		slots = append(slots, slot)
	}
	for _, slot := range slots {
		gens := []int{0, 1, lastGen}
		if slot >= 0 && slot < len(of.Words) {
			gen := int(of.Words[slot] >> 26 & lastGen)
			gens = append(gens, gen-1, gen, gen+1, -gen, gen+1<<32, gen-1<<32)
		}
		for _, gen := range gens {
			h := api.Handle{Slot: slot, Gen: gen}
			checkCheck(t, of, h, wantCheck(of, h))
		}
	}
}

// checkCalls holds Create, Exit and Step of t against the chapter's words, at these arguments.
func checkCalls(t *testing.T, of api.Table, slot, gen, event, cpu, nice int, m uint64) {
	t.Helper()
	h := api.Handle{Slot: slot, Gen: gen}
	checkCreate(t, of, cpu, nice, m, wantCreate(of, cpu, nice, m))
	checkExit(t, of, h, wantExit(of, h))
	checkCheck(t, of, h, wantCheck(of, h))
	checkStep(t, of, slot, event, cpu, wantStep(of, slot, event, cpu))
}

// kinds are states of each kind, Blocking with Bit and without.
func kinds() []parts {
	var l []parts
	for kind := range 9 {
		l = append(l, parts{kind, 9, 5, 2})
	}
	return l
}

// many tells a table of n slots that were all taken, and are left, but the last one that sleeps.
func many(n int) api.Table {
	l := make([]parts, n)
	for i := range l {
		l[i] = parts{gen: i + 1}
	}
	if n > 0 {
		l[n-1].kind = api.Asleep
	}
	return tableOf(l...)
}

// wrong are tables that are not right, by each part of that word.
func wrong() []api.Table {
	asleep, free := parts{api.Asleep, 0, 0, 1}.word(), parts{api.Free, 0, 0, 1}.word()
	x := some()
	l := []api.Table{
		many(65), many(66), many(1000), {Words: make([]uint64, 65), Tasks: make([]api.Task, 65)},
		{Words: []uint64{0}}, {Tasks: []api.Task{{}}}, {Words: []uint64{0, 0}, Tasks: []api.Task{{}}}, {Words: []uint64{0}, Tasks: []api.Task{{}, {}}}, {Words: []uint64{asleep}}, {Words: []uint64{asleep, asleep}, Tasks: []api.Task{x}}, {Words: []uint64{asleep}, Tasks: []api.Task{x, x}},
		{Words: make([]uint64, 64), Tasks: make([]api.Task, 63)}, {Words: make([]uint64, 64), Tasks: make([]api.Task, 65)}, {Words: make([]uint64, 65), Tasks: make([]api.Task, 64)}, {Words: make([]uint64, 65)}, {Tasks: make([]api.Task, 64)},
		one(free, api.Task{Nice: 1}), one(free, api.Task{Nice: -1}), one(free, api.Task{Mask: 1}), one(free, api.Task{Mask: 1 << 63}), one(free, api.Task{Lag: 1}), one(free, api.Task{Lag: -1}), one(free, x), one(0, x), one(0, api.Task{Lag: least}), one(0, api.Task{Nice: least}),
		one(512, api.Task{}), one(512|asleep, x), one(asleep|1<<58, x), one(1<<58, api.Task{}), one(1<<63|asleep, x), one(1<<64-1, x), one(519|1<<60, x),
	}
	for _, n := range []int{least, -21, 20, greatest} {
		l = append(l, one(asleep, api.Task{Nice: n, Mask: 1}))
	}
	for _, n := range []int{least, -lag - 1, lag + 1, greatest} {
		l = append(l, one(asleep, api.Task{Lag: n, Mask: 1}))
	}
	l = append(l, one(asleep, api.Task{}), one(asleep, api.Task{Nice: 1, Lag: 1}))
	for _, t := range l[16:] {
		// The same behind and ahead of slots that are right.
		u := tableOf(kinds()...)
		l = append(l, api.Table{Words: append(u.Words, t.Words...), Tasks: append(u.Tasks, t.Tasks...)})
		l = append(l, api.Table{Words: append(slices.Clone(t.Words), u.Words...), Tasks: append(slices.Clone(t.Tasks), u.Tasks...)})
	}
	return l
}
