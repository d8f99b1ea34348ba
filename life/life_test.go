package life

import (
	"math"
	"slices"
	"testing"

	"turnspit/api"
)

const (
	top   uint64 = 1<<64 - 1
	noted        = 8 // Blocking with Bit, where the table of the chapter tells it from Blocking without
)

// row is one of the chapter's table: an event's kinds, and the one that it comes to.
type row struct {
	of []int
	to int
}

// rows are the chapter's table, in the order of the events' numbers.
func rows() []row {
	return []row{
		{[]int{api.Free}, api.Asleep},
		{[]int{api.Asleep, api.Listed, api.Queued, api.Running}, api.Free},
		{[]int{api.Asleep}, api.Waking},
		{[]int{api.Waking}, api.Listed},
		{[]int{api.Waking, api.Listed}, api.Queued},
		{[]int{api.Queued}, api.Running},
		{[]int{api.Running}, api.Queued},
		{[]int{api.Running}, api.Blocking},
		{[]int{api.Blocking}, noted},
		{[]int{api.Blocking}, api.Asleep},
		{[]int{noted}, api.Listed},
		{[]int{api.Running}, api.Asleep},
		{[]int{api.Asleep}, api.Asleep},
		{[]int{api.Queued, api.Running}, api.Moving},
		{[]int{api.Moving}, api.Queued},
		{[]int{api.Queued}, api.Queued},
	}
}

// parts are a word's, as the chapter of layer 6 tells them; kind is noted of Blocking with Bit.
type parts struct{ kind, cpu, seq, gen int }

// word tells the word of p, by a sum rather than by layer 6.
func (p parts) word() uint64 {
	w := 8*uint64(p.cpu) + 1024*uint64(p.seq) + 67108864*uint64(p.gen)
	if p.kind == noted {
		return w + 512 + 7
	}
	return w + uint64(p.kind)
}

// split tells the parts of w, and true; false, if w is no state's word.
func split(w uint64) (parts, bool) {
	kind, bit, gen := int(w%8), int(w/512%2), w/67108864
	if gen > 4294967295 || bit == 1 && kind != 7 {
		return parts{}, false
	}
	return parts{kind + bit, int(w / 8 % 64), int(w / 1024 % 65536), int(gen)}, true
}

// wantNext tells what G1 asks, by the chapter's table.
func wantNext(w uint64, event, cpu int) (uint64, api.Errno) {
	p, ok := split(w)
	if !ok || event < 0 || event > 15 || cpu < 0 || cpu > 63 {
		return 0, api.ErrArg
	}
	r := rows()[event]
	if !slices.Contains(r.of, p.kind) {
		return 0, api.ErrOrder
	}
	if event == 0 && p.gen == 4294967295 {
		return 0, api.ErrFull
	}
	p.kind = r.to
	switch event {
	case 0:
		p.gen, p.seq, p.cpu = p.gen+1, 0, cpu
	case 1:
		p.seq, p.cpu = 0, 0
	case 2:
		p.seq = (p.seq + 1) % 65536
	case 11, 12, 13, 15:
		p.cpu = cpu
	}
	return p.word(), api.OK
}

// wantPlay tells what G4 asks.
func wantPlay(w uint64, l [][2]int) (uint64, int) {
	n := 0
	for n < len(l) {
		v, errno := wantNext(w, l[n][0], l[n][1])
		if errno != api.OK {
			break
		}
		w = v
		n++
	}
	return w, n
}

// good are states' words: of each kind, Blocking with Bit and without, at the edges of the other parts.
func good() []uint64 {
	var l []uint64
	for kind := range 9 {
		for _, cpu := range []int{0, 1, 9, 62, 63} {
			for _, seq := range []int{0, 1, 5, 65534, 65535} {
				for _, gen := range []int{0, 1, 2, 4294967294, 4294967295} {
					l = append(l, parts{kind, cpu, seq, gen}.word())
				}
			}
		}
	}
	return l
}

// bad are words that are no state's: Bit beside another kind than Blocking, and bits above Gen.
func bad() []uint64 {
	l := []uint64{512, 1 << 58, 1 << 63, top, top - 512, 1<<58 | 7, 1<<58 | 519, 1<<60 | 5}
	for kind := range uint64(7) {
		l = append(l, 512|kind, 512|kind|8*9|1024*5|67108864*2)
	}
	for kind := range 9 {
		for b := 58; b < 64; b++ {
			l = append(l, parts{kind, 9, 5, 2}.word()|1<<b)
		}
	}
	return l
}

// eventEdges are all events, and what is none.
func eventEdges() []int {
	l := []int{math.MinInt, math.MinInt + 1, -1 << 32, -16, -2, -1, 16, 17, 31, 1 << 32, 1<<32 + 1, 1 << 61, math.MaxInt - 1, math.MaxInt}
	for event := range 16 {
		l = append(l, event)
	}
	return l
}

// cpuEdges are CPUs at their edges, and what is none.
func cpuEdges() []int {
	return []int{math.MinInt, -1 << 32, -64, -1, 0, 1, 4, 62, 63, 64, 65, 127, 1 << 32, 1<<61 + 1, math.MaxInt}
}

// checkNext holds G1 and G2 at w, event and cpu.
func checkNext(t *testing.T, w uint64, event, cpu int) {
	t.Helper()
	want, fault := wantNext(w, event, cpu)
	if v, errno := Next(w, event, cpu); v != want || errno != fault {
		t.Fatalf("Next(%#x, %d, %d): %#x, %d; want %#x, %d", w, event, cpu, v, errno, want, fault)
	}
	_, fault = wantNext(w, event, 0)
	if may := May(w, event); may != (fault == api.OK) {
		t.Fatalf("May(%#x, %d): %t; want %t", w, event, may, !may)
	}
}

// checkKinds holds G3 at w.
func checkKinds(t *testing.T, w uint64) {
	t.Helper()
	p, ok := split(w)
	settled := ok && slices.Contains([]int{api.Free, api.Asleep, api.Listed, api.Queued, api.Running}, p.kind)
	awake := ok && slices.Contains([]int{api.Listed, api.Queued, api.Running, api.Moving, noted}, p.kind)
	if Settled(w) != settled || Awake(w) != awake {
		t.Fatalf("%#x: Settled %t, Awake %t; want %t, %t", w, Settled(w), Awake(w), settled, awake)
	}
}

// checkPlay holds G4 at w and l, and that l, and what stands behind it, is not written into.
func checkPlay(t *testing.T, w uint64, l [][2]int) {
	t.Helper()
	long := append(slices.Clone(l), [][2]int{{-5, 70}, {3, 3}, {0, 1}}...)
	old := slices.Clone(long)
	want, wantN := wantPlay(w, l)
	if v, n := Play(w, long[:len(l)]); v != want || n != wantN {
		t.Fatalf("Play(%#x, %v): %#x, %d; want %#x, %d", w, l, v, n, want, wantN)
	}
	if !slices.Equal(long, old) {
		t.Fatalf("Play(%#x, %v) wrote: %v", w, l, long)
	}
}

// The chapter's example.
func TestExamples(t *testing.T) {
	w := uint64(api.Asleep)
	if v, n := Play(w, [][2]int{{api.EvClaim, 0}, {api.EvPlace, 0}, {api.EvRun, 0}}); v != 1024+api.Running || n != 3 {
		t.Error(v, n)
	}
	if v, errno := Next(w, api.EvRun, 0); v != 0 || errno != api.ErrOrder {
		t.Error(v, errno)
	}
}

// G1: what stands in a word behind each event, of each kind that it is of: Kind, Cpu, Bit, Seq and Gen.
func TestNext(t *testing.T) {
	for _, x := range []struct {
		event int
		w, v  parts
	}{
		{api.EvCreate, parts{api.Free, 9, 5, 2}, parts{api.Asleep, 4, 0, 3}},
		{api.EvExit, parts{api.Asleep, 9, 5, 2}, parts{api.Free, 0, 0, 2}},
		{api.EvExit, parts{api.Listed, 9, 5, 2}, parts{api.Free, 0, 0, 2}},
		{api.EvExit, parts{api.Queued, 9, 5, 2}, parts{api.Free, 0, 0, 2}},
		{api.EvExit, parts{api.Running, 9, 5, 2}, parts{api.Free, 0, 0, 2}},
		{api.EvClaim, parts{api.Asleep, 9, 5, 2}, parts{api.Waking, 9, 6, 2}},
		{api.EvList, parts{api.Waking, 9, 5, 2}, parts{api.Listed, 9, 5, 2}},
		{api.EvPlace, parts{api.Waking, 9, 5, 2}, parts{api.Queued, 9, 5, 2}},
		{api.EvPlace, parts{api.Listed, 9, 5, 2}, parts{api.Queued, 9, 5, 2}},
		{api.EvRun, parts{api.Queued, 9, 5, 2}, parts{api.Running, 9, 5, 2}},
		{api.EvPut, parts{api.Running, 9, 5, 2}, parts{api.Queued, 9, 5, 2}},
		{api.EvBlock, parts{api.Running, 9, 5, 2}, parts{api.Blocking, 9, 5, 2}},
		{api.EvNote, parts{api.Blocking, 9, 5, 2}, parts{noted, 9, 5, 2}},
		{api.EvSleep, parts{api.Blocking, 9, 5, 2}, parts{api.Asleep, 9, 5, 2}},
		{api.EvRelist, parts{noted, 9, 5, 2}, parts{api.Listed, 9, 5, 2}},
		{api.EvRest, parts{api.Running, 9, 5, 2}, parts{api.Asleep, 4, 5, 2}},
		{api.EvShift, parts{api.Asleep, 9, 5, 2}, parts{api.Asleep, 4, 5, 2}},
		{api.EvTake, parts{api.Queued, 9, 5, 2}, parts{api.Moving, 4, 5, 2}},
		{api.EvTake, parts{api.Running, 9, 5, 2}, parts{api.Moving, 4, 5, 2}},
		{api.EvLand, parts{api.Moving, 9, 5, 2}, parts{api.Queued, 9, 5, 2}},
		{api.EvMove, parts{api.Queued, 9, 5, 2}, parts{api.Queued, 4, 5, 2}},
	} {
		if v, errno := Next(x.w.word(), x.event, 4); v != x.v.word() || errno != api.OK {
			t.Errorf("event %d of %+v: %#x, %d; want %+v", x.event, x.w, v, errno, x.v)
		}
	}
	for _, w := range append(good(), bad()...) {
		for _, event := range eventEdges() {
			for _, cpu := range cpuEdges() {
				checkNext(t, w, event, cpu)
			}
		}
	}
}

// G1: of just how many kinds each event is, Blocking with Bit and without being two.
func TestNextKinds(t *testing.T) {
	for event, want := range [16]int{1, 4, 1, 1, 2, 1, 1, 1, 1, 1, 1, 1, 1, 2, 1, 1} {
		n := 0
		for kind := range 9 {
			v, errno := Next(parts{kind, 9, 5, 2}.word(), event, 4)
			if errno == api.OK {
				n++
			} else if v != 0 || errno != api.ErrOrder {
				t.Errorf("event %d of kind %d: %#x, %d", event, kind, v, errno)
			}
		}
		if n != want {
			t.Errorf("event %d is of %d kinds, want %d", event, n, want)
		}
	}
}

// G1, R1: numbers that are no event and no CPU, words that are no state's, and which error is told where several apply; nothing beside an error.
func TestNextWrong(t *testing.T) {
	free, asleep, full := uint64(0), uint64(api.Asleep), uint64(1<<58-1<<26)
	for _, x := range []struct {
		w          uint64
		event, cpu int
		errno      api.Errno
	}{
		{free, -1, 0, api.ErrArg}, {free, 16, 0, api.ErrArg}, {free, math.MinInt, 0, api.ErrArg}, {free, math.MaxInt, 0, api.ErrArg},
		{free, 0, -1, api.ErrArg}, {free, 0, 64, api.ErrArg}, {free, 0, math.MinInt, api.ErrArg}, {free, 0, math.MaxInt, api.ErrArg},
		{free, math.MinInt, math.MinInt, api.ErrArg}, {free, math.MaxInt, math.MaxInt, api.ErrArg}, {free, 16, 64, api.ErrArg}, {free, -1, -1, api.ErrArg},
		{asleep, api.EvClaim, -1, api.ErrArg}, {asleep, api.EvClaim, 64, api.ErrArg}, {asleep, api.EvExit, 64, api.ErrArg}, // a CPU that the event does not lean on
		{asleep, api.EvRun, 64, api.ErrArg}, {asleep, api.EvRun, -1, api.ErrArg}, {asleep, api.EvRun, 63, api.ErrOrder}, // ErrArg ahead of ErrOrder
		{full, api.EvCreate, 64, api.ErrArg}, {full, api.EvCreate, -1, api.ErrArg}, // ErrArg ahead of ErrFull
		{full, api.EvCreate, 0, api.ErrFull}, {full, api.EvCreate, 63, api.ErrFull}, {full, api.EvClaim, 0, api.ErrOrder}, {full, api.EvMove, 0, api.ErrOrder},
		{full | asleep, api.EvCreate, 0, api.ErrOrder}, {full | 519, api.EvCreate, 0, api.ErrOrder}, // ErrOrder ahead of ErrFull
		{full | 1<<58, api.EvCreate, 0, api.ErrArg}, {full | 512, api.EvCreate, 0, api.ErrArg}, {full | 512, 16, 64, api.ErrArg},
	} {
		if v, errno := Next(x.w, x.event, x.cpu); v != 0 || errno != x.errno {
			t.Errorf("Next(%#x, %d, %d): %#x, %d; want 0, %d", x.w, x.event, x.cpu, v, errno, x.errno)
		}
	}
	for _, w := range bad() {
		for event := -1; event <= 16; event++ {
			if v, errno := Next(w, event, 0); v != 0 || errno != api.ErrArg {
				t.Errorf("Next(%#x, %d, 0): %#x, %d", w, event, v, errno)
			}
		}
	}
}

// G1: Gen and Seq at their edges, and the CPUs 0 and 63.
func TestNextEdges(t *testing.T) {
	for _, x := range []struct {
		w          parts
		event, cpu int
		v          parts
	}{
		{parts{api.Free, 0, 0, 0}, api.EvCreate, 0, parts{api.Asleep, 0, 0, 1}},
		{parts{api.Free, 0, 0, 0}, api.EvCreate, 63, parts{api.Asleep, 63, 0, 1}},
		{parts{api.Free, 63, 65535, 4294967294}, api.EvCreate, 0, parts{api.Asleep, 0, 0, 4294967295}},
		{parts{api.Free, 63, 65535, 4294967294}, api.EvCreate, 63, parts{api.Asleep, 63, 0, 4294967295}},
		{parts{api.Asleep, 63, 0, 4294967295}, api.EvClaim, 0, parts{api.Waking, 63, 1, 4294967295}},
		{parts{api.Asleep, 63, 65534, 4294967295}, api.EvClaim, 0, parts{api.Waking, 63, 65535, 4294967295}},
		{parts{api.Asleep, 63, 65535, 4294967295}, api.EvClaim, 0, parts{api.Waking, 63, 0, 4294967295}},
		{parts{api.Asleep, 0, 65535, 0}, api.EvClaim, 63, parts{api.Waking, 0, 0, 0}},
		{parts{api.Running, 63, 65535, 4294967295}, api.EvExit, 63, parts{api.Free, 0, 0, 4294967295}},
		{parts{api.Running, 0, 65535, 4294967295}, api.EvRest, 63, parts{api.Asleep, 63, 65535, 4294967295}},
		{parts{api.Asleep, 63, 65535, 4294967295}, api.EvShift, 0, parts{api.Asleep, 0, 65535, 4294967295}},
		{parts{api.Queued, 63, 65535, 4294967295}, api.EvTake, 0, parts{api.Moving, 0, 65535, 4294967295}},
		{parts{api.Queued, 0, 0, 0}, api.EvMove, 63, parts{api.Queued, 63, 0, 0}},
		{parts{api.Blocking, 63, 65535, 4294967295}, api.EvNote, 0, parts{noted, 63, 65535, 4294967295}},
		{parts{noted, 63, 65535, 4294967295}, api.EvRelist, 0, parts{api.Listed, 63, 65535, 4294967295}},
	} {
		if v, errno := Next(x.w.word(), x.event, x.cpu); v != x.v.word() || errno != api.OK {
			t.Errorf("Next(%+v, %d, %d): %#x, %d; want %+v", x.w, x.event, x.cpu, v, errno, x.v)
		}
	}
	for event, r := range rows() {
		for _, kind := range r.of {
			for cpu := range 64 {
				checkNext(t, parts{kind, 63 - cpu, 5, 2}.word(), event, cpu)
			}
		}
	}
}

// G2: of each kind just these events; of a slot that can't be taken once more, of words that are no state's, and of what is no event none.
func TestMay(t *testing.T) {
	for kind, want := range [][]int{{0}, {1, 2, 12}, {3, 4}, {1, 4}, {1, 5, 13, 15}, {1, 6, 7, 11, 13}, {14}, {8, 9}, {10}} {
		for _, event := range eventEdges() {
			if may := May(parts{kind, 63, 5, 2}.word(), event); may != slices.Contains(want, event) {
				t.Errorf("kind %d, event %d: %t", kind, event, may)
			}
		}
	}
	for _, event := range eventEdges() {
		if May(parts{api.Free, 0, 0, 4294967295}.word(), event) {
			t.Errorf("a full slot, event %d", event)
		}
		for _, w := range bad() {
			if May(w, event) {
				t.Errorf("%#x, event %d", w, event)
			}
		}
	}
	if !May(parts{api.Free, 0, 0, 4294967294}.word(), api.EvCreate) {
		t.Error("a slot that may be taken once more")
	}
}

// G3: of each kind, of Blocking with Bit and without, and of words that are no state's, whatever kind they seem of.
func TestSettledAwake(t *testing.T) {
	for kind, want := range [9][2]bool{
		api.Free: {true, false}, api.Asleep: {true, false}, api.Waking: {false, false}, api.Listed: {true, true}, api.Queued: {true, true},
		api.Running: {true, true}, api.Moving: {false, true}, api.Blocking: {false, false}, noted: {false, true},
	} {
		for _, p := range []parts{{kind, 0, 0, 0}, {kind, 1, 5, 2}, {kind, 63, 65535, 4294967295}} {
			if w := p.word(); Settled(w) != want[0] || Awake(w) != want[1] {
				t.Errorf("%+v: Settled %t, Awake %t", p, Settled(w), Awake(w))
			}
		}
	}
	for _, w := range bad() {
		if Settled(w) || Awake(w) {
			t.Errorf("%#x: Settled %t, Awake %t", w, Settled(w), Awake(w))
		}
	}
	for w := range uint64(1 << 11) { // all kinds, CPUs and Bits
		checkKinds(t, w)
		checkKinds(t, w|1<<57)
		checkKinds(t, w|1<<58)
	}
	for _, w := range good() {
		checkKinds(t, w)
	}
}

// G4: no events; events none of which has an error; the first one, one in the midst or the last one that has one; words that are no state's are told as they came.
func TestPlay(t *testing.T) {
	run := [][2]int{{api.EvCreate, 3}, {api.EvClaim, 1}, {api.EvPlace, 1}, {api.EvRun, 1}}
	running := parts{api.Running, 3, 1, 1}.word()
	for _, x := range []struct {
		w uint64
		l [][2]int
		v uint64
		n int
	}{
		{0, nil, 0, 0}, {0, [][2]int{}, 0, 0}, {running, nil, running, 0}, {512, nil, 512, 0}, {top, nil, top, 0},
		{0, run, running, 4}, {0, run[:1], parts{api.Asleep, 3, 0, 1}.word(), 1}, {0, run[1:], 0, 0},
		{0, [][2]int{{api.EvCreate, 64}, {api.EvCreate, 0}}, 0, 0}, {0, [][2]int{{-1, 0}, {0, 0}}, 0, 0}, {0, [][2]int{{16, 0}, {0, 0}}, 0, 0},
		{0, [][2]int{{0, 3}, {2, 0}, {4, 0}, {2, 0}, {1, 0}}, parts{api.Queued, 3, 1, 1}.word(), 3},
		{0, [][2]int{{0, 3}, {2, 0}, {4, 64}, {4, 0}}, parts{api.Waking, 3, 1, 1}.word(), 2},
		{0, [][2]int{{0, 3}, {2, 0}, {4, 0}, {16, 0}}, parts{api.Queued, 3, 1, 1}.word(), 3},
		{0, [][2]int{{0, 3}, {math.MinInt, math.MaxInt}, {1, 0}}, parts{api.Asleep, 3, 0, 1}.word(), 1},
		{running, [][2]int{{api.EvBlock, 0}, {api.EvNote, 0}, {api.EvRelist, 0}, {api.EvExit, 0}, {api.EvCreate, 63}}, parts{api.Asleep, 63, 0, 2}.word(), 5},
		{running, [][2]int{{api.EvTake, 8}, {api.EvLand, 0}, {api.EvMove, 63}, {api.EvRun, 0}, {api.EvRest, 2}, {api.EvShift, 7}}, parts{api.Asleep, 7, 1, 1}.word(), 6},
		{parts{api.Running, 0, 0, 4294967295}.word(), [][2]int{{api.EvExit, 0}, {api.EvCreate, 0}}, parts{api.Free, 0, 0, 4294967295}.word(), 1},
		{512, run, 512, 0}, {1 << 58, run, 1 << 58, 0}, {top, run, top, 0}, {1<<60 | running, [][2]int{{api.EvPut, 0}}, 1<<60 | running, 0},
	} {
		if v, n := Play(x.w, x.l); v != x.v || n != x.n {
			t.Errorf("Play(%#x, %v): %#x, %d; want %#x, %d", x.w, x.l, v, n, x.v, x.n)
		}
		checkPlay(t, x.w, x.l)
	}
	for _, w := range append(good(), bad()...) {
		for event := -1; event <= 16; event++ {
			checkPlay(t, w, [][2]int{{event, 4}, {api.EvClaim, 0}, {api.EvExit, 0}, {api.EvCreate, 5}, {api.EvShift, 64}})
		}
	}
}

// chance tells a closure that tells numbers below n, the same ones of a seed each time.
func chance(seed uint64) func(n int) int {
	return func(n int) int {
		seed = seed*6364136223846793005 + 1442695040888963407
		return int(seed >> 33 % uint64(n))
	}
}

// longRow tells as many events as n, with their CPUs, each of the kind that the ones ahead of it come to from Free on; an exit is seldom, so that takings last.
func longRow(seed uint64, n int) [][2]int {
	draw := chance(seed)
	table := rows()
	kind := api.Free
	var l [][2]int
	for len(l) < n {
		event := draw(16)
		if !slices.Contains(table[event].of, kind) || event == api.EvExit && draw(20) > 0 {
			continue
		}
		l = append(l, [2]int{event, draw(64)})
		kind = table[event].to
	}
	return l
}

// G5: over long rows of events: what comes of a word is a word; Gen never falls, and grows, by one, just by EvCreate; Seq stays but for EvClaim within a taking, and is another one behind each; what sleeps runs behind a claim alone, what blocks behind a claim or a note.
func TestTheorem(t *testing.T) {
	for seed := range uint64(40) {
		l := longRow(seed, 3000)
		var w uint64
		slept, blocked := false, false // with neither claim nor note since
		for i, e := range l {
			v, errno := Next(w, e[0], e[1])
			if errno != api.OK || !May(w, e[0]) {
				t.Fatalf("seed %d, event %d, %v of %#x: %d", seed, i, e, w, errno)
			}
			old, _ := split(w)
			p, ok := split(v)
			if !ok {
				t.Fatalf("seed %d: Next(%#x, %v): %#x, which is no word", seed, w, e, v)
			}
			if created := e[0] == api.EvCreate; created && p.gen != old.gen+1 || !created && p.gen != old.gen {
				t.Fatalf("seed %d: Next(%#x, %v): %#x: Gen", seed, w, e, v)
			}
			if claimed := e[0] == api.EvClaim; e[0] != api.EvCreate && e[0] != api.EvExit && claimed != (p.seq != old.seq) {
				t.Fatalf("seed %d: Next(%#x, %v): %#x: Seq", seed, w, e, v)
			}
			if e[0] == api.EvClaim || e[0] == api.EvNote {
				slept, blocked = false, false
			}
			if p.kind == api.Running && (slept || blocked) {
				t.Fatalf("seed %d, event %d: it runs, and nobody woke it", seed, i)
			}
			slept = slept || p.kind == api.Asleep
			blocked = blocked || p.kind == api.Blocking
			checkNext(t, w, e[0], e[1])
			checkKinds(t, v)
			w = v
		}
		if v, n := Play(0, l); v != w || n != len(l) {
			t.Fatalf("seed %d: Play: %#x, %d; want %#x, %d", seed, v, n, w, len(l))
		}
		half, _ := Play(0, l[:1234])
		if v, n := Play(half, l[1234:]); v != w || n != len(l)-1234 {
			t.Fatalf("seed %d: Play, and on: %#x, %d; want %#x", seed, v, n, w)
		}
	}
}

// G5: from a word that sleeps no row of events without a claim comes to what is awake, and from one that blocks none without a claim or a note.
func TestAwakeByClaimOrNote(t *testing.T) {
	for _, from := range []int{api.Asleep, api.Blocking} {
		seen := map[uint64]int{}
		work := []uint64{parts{from, 9, 5, 2}.word()}
		for len(work) > 0 {
			w := work[0]
			work = work[1:]
			if Awake(w) {
				t.Errorf("from kind %d: %#x", from, w)
			}
			for event := range 16 {
				v, errno := Next(w, event, 9)
				if errno != api.OK || event == api.EvClaim || event == api.EvNote || v>>26 > 4 || seen[v] > 0 {
					continue
				}
				seen[v] = 1
				work = append(work, v)
			}
		}
	}
}

// G5: 2^16 claims of one taking have as many Seq, and the next one is the first one's again.
func TestClaims(t *testing.T) {
	round := [][2]int{{api.EvClaim, 0}, {api.EvPlace, 0}, {api.EvRun, 0}, {api.EvRest, 9}}
	w := parts{api.Asleep, 9, 5, 2}.word()
	seen := map[uint64]int{}
	for i := range 1 << 16 {
		v, n := Play(w, round)
		if n != 4 {
			t.Fatal(i, v, n)
		}
		seen[v]++
		w = v
	}
	if len(seen) != 1<<16 || w != (parts{api.Asleep, 9, 5, 2}).word() {
		t.Errorf("%d words of claims, the last one %#x", len(seen), w)
	}
}

// FuzzLife holds all promises against the words of the chapter, at whatever numbers.
func FuzzLife(f *testing.F) {
	f.Add(uint64(67108892), 5, 3, 6, 0, uint64(1))
	f.Add(uint64(1<<58-1), 10, 63, 4, 64, uint64(2))
	f.Add(top, -1, 64, math.MinInt, math.MaxInt, uint64(3))
	f.Fuzz(func(t *testing.T, w uint64, event, cpu, event2, cpu2 int, seed uint64) {
		l := longRow(seed, 8)
		for _, word := range []uint64{w, w >> 6, w>>6 | 7, w >> 6 &^ 512} {
			checkNext(t, word, event, cpu)
			checkNext(t, word, event&15, cpu&63)
			checkKinds(t, word)
			checkPlay(t, word, [][2]int{{event, cpu}, {event2, cpu2}})
			checkPlay(t, word, append([][2]int{{event & 15, cpu & 63}, {event2 & 15, cpu2 & 63}}, l...))
			checkPlay(t, word&^1023, append(l, [2]int{event, cpu}))
		}
	})
}
