package packed

import (
	"math"
	"slices"
	"testing"

	"turnspit/api"
)

const top uint64 = 1<<64 - 1

// edges are numbers around what a part may be: 0 and most, what is beside these, and numbers that are no part's, however they are cut.
func edges(most int) []int {
	return []int{math.MinInt, math.MinInt + 1, -1 << 32, -most - 1, -2, -1, 0, 1, most / 2, most - 1, most, most + 1, most + 2, 1 << 32, 1<<32 + 1, 1 << 38, 1 << 61, math.MaxInt - 1, math.MaxInt}
}

// kinds are all Kinds, and what is none.
func kinds() []int {
	return append(edges(7), 2, 4, 5, 9, 15, 16, 64)
}

// cpus are all CPUs, and what is none.
func cpus() []int {
	l := edges(63)
	for c := range 64 {
		l = append(l, c)
	}
	return l
}

// words are 0, those with one bit each, with all bits up to one and from one on, all parts' edges together, the same with one bit more, and ones of no special form.
func words() []uint64 {
	l := []uint64{0, top, 67108892, 1<<58 - 1, 1 << 58, 1<<58 - 1 - 512, 512, 519, 512 | 7<<3, 0x5555555555555555, 0xaaaaaaaaaaaaaaaa}
	for b := range 64 {
		l = append(l, 1<<b, 1<<b-1, top-1<<b, top-(1<<b-1), 1<<b|7, 1<<b|519)
	}
	for _, x := range states() {
		if w, errno := wantWord(x); errno == api.OK {
			l = append(l, w, w^512, w|1<<58, w|1<<63, w^1)
		}
	}
	n := uint64(1)
	for range 256 { // a fixed sequence, of all bits and of a state's alone
		n = n*6364136223846793005 + 1442695040888963407
		l = append(l, n, n>>6, n>>6|519, n>>6&^512)
	}
	slices.Sort(l)
	return slices.Compact(l)
}

// states are those of all Kinds and CPUs with the edges of the rest, right and wrong.
func states() []api.State {
	var l []api.State
	for _, kind := range kinds() {
		for _, bit := range []bool{false, true} {
			for _, cpu := range edges(63) {
				l = append(l, api.State{Kind: kind, Cpu: cpu, Bit: bit}, api.State{Kind: kind, Cpu: cpu, Bit: bit, Seq: 1<<16 - 1, Gen: 1<<32 - 1})
			}
			for _, seq := range edges(1<<16 - 1) {
				l = append(l, api.State{Kind: kind, Bit: bit, Seq: seq}, api.State{Kind: kind, Cpu: 63, Bit: bit, Seq: seq, Gen: 1<<32 - 1})
			}
			for _, gen := range edges(1<<32 - 1) {
				l = append(l, api.State{Kind: kind, Bit: bit, Gen: gen}, api.State{Kind: kind, Cpu: 63, Bit: bit, Seq: 1<<16 - 1, Gen: gen})
			}
		}
	}
	return l
}

// wantMay tells whether x may be, by the word of the chapter.
func wantMay(x api.State) bool {
	switch {
	case x.Kind < 0, x.Kind > 7, x.Cpu < 0, x.Cpu > 63:
		return false
	case x.Seq < 0, x.Seq > 65535, x.Gen < 0, x.Gen > 4294967295:
		return false
	}
	return !x.Bit || x.Kind == 7
}

// wantWord tells what F1 asks of x, by a sum rather than by shifts.
func wantWord(x api.State) (uint64, api.Errno) {
	if !wantMay(x) {
		return 0, api.ErrArg
	}
	w := uint64(x.Kind) + 8*uint64(x.Cpu) + 1024*uint64(x.Seq) + 67108864*uint64(x.Gen)
	if x.Bit {
		w += 512
	}
	return w, api.OK
}

// wantState tells what F2 asks of w, by quotients and rests.
func wantState(w uint64) (api.State, api.Errno) {
	var digit [5]int
	for i, base := range []uint64{8, 64, 2, 65536, 4294967296} {
		digit[i] = int(w % base)
		w /= base
	}
	x := api.State{Kind: digit[0], Cpu: digit[1], Bit: digit[2] == 1, Seq: digit[3], Gen: digit[4]}
	if w > 0 || !wantMay(x) {
		return api.State{}, api.ErrArg
	}
	return x, api.OK
}

// checkState holds F1 at x, and F5: Unpack undoes Pack.
func checkState(t *testing.T, x api.State) {
	t.Helper()
	want, fault := wantWord(x)
	w, errno := Pack(x)
	if w != want || errno != fault {
		t.Fatalf("Pack(%+v): %#x, %d; want %#x, %d", x, w, errno, want, fault)
	}
	if fault != api.OK {
		return
	}
	if back, errno := Unpack(w); back != x || errno != api.OK {
		t.Fatalf("Unpack(Pack(%+v)): %+v, %d", x, back, errno)
	}
}

// checkWord holds F2 and F3 at w, and F5: Pack undoes Unpack.
func checkWord(t *testing.T, w uint64) {
	t.Helper()
	want, fault := wantState(w)
	x, errno := Unpack(w)
	if x != want || errno != fault {
		t.Fatalf("Unpack(%#x): %+v, %d; want %+v, %d", w, x, errno, want, fault)
	}
	if kind := Kind(w); uint64(kind) != w%8 {
		t.Fatalf("Kind(%#x): %d", w, kind)
	}
	if cpu := Cpu(w); uint64(cpu) != w/8%64 {
		t.Fatalf("Cpu(%#x): %d", w, cpu)
	}
	if gen := Gen(w); uint64(gen) != w/67108864%4294967296 {
		t.Fatalf("Gen(%#x): %d", w, gen)
	}
	if fault != api.OK {
		return
	}
	if back, errno := Pack(x); back != w || errno != api.OK {
		t.Fatalf("Pack(Unpack(%#x)): %#x, %d", w, back, errno)
	}
}

// checkPut holds F4 at w, kind and cpu, and F5: what Put tells is w's state but for what Put was told, and Bit.
func checkPut(t *testing.T, w uint64, kind, cpu int) {
	t.Helper()
	old, fault := wantState(w)
	var want uint64
	if fault == api.OK {
		want, fault = wantWord(api.State{Kind: kind, Cpu: cpu, Seq: old.Seq, Gen: old.Gen})
	}
	v, errno := Put(w, kind, cpu)
	if v != want || errno != fault {
		t.Fatalf("Put(%#x, %d, %d): %#x, %d; want %#x, %d", w, kind, cpu, v, errno, want, fault)
	}
	if fault != api.OK {
		return
	}
	if x, errno := Unpack(v); errno != api.OK || x.Kind != kind || x.Cpu != cpu || x.Bit || x.Seq != old.Seq || x.Gen != old.Gen {
		t.Fatalf("Unpack(Put(%#x, %d, %d)): %+v, %d", w, kind, cpu, x, errno)
	}
	if back, errno := Put(v, old.Kind, old.Cpu); errno != api.OK || back != w&^512 {
		t.Fatalf("Put(%#x, %d, %d), and back: %#x, %d", w, kind, cpu, back, errno)
	}
}

// The chapter's example, both ways.
func TestExamples(t *testing.T) {
	x := api.State{Kind: api.Queued, Cpu: 3, Gen: 1}
	if w, errno := Pack(x); w != 67108892 || errno != api.OK {
		t.Error(w, errno)
	}
	if back, errno := Unpack(67108892); back != x || errno != api.OK {
		t.Error(back, errno)
	}
}

// F1: each part by itself, at its edges; all of them at their most.
func TestPack(t *testing.T) {
	for _, x := range []struct {
		s api.State
		w uint64
	}{
		{api.State{}, 0}, {api.State{Kind: api.Asleep}, 1}, {api.State{Kind: api.Waking}, 2}, {api.State{Kind: api.Listed}, 3}, {api.State{Kind: api.Queued}, 4},
		{api.State{Kind: api.Running}, 5}, {api.State{Kind: api.Moving}, 6}, {api.State{Kind: api.Blocking}, 7}, {api.State{Kind: api.Blocking, Bit: true}, 519},
		{api.State{Cpu: 1}, 8}, {api.State{Cpu: 63}, 504}, {api.State{Seq: 1}, 1024}, {api.State{Seq: api.MaxSeq}, 1<<26 - 1024},
		{api.State{Gen: 1}, 1 << 26}, {api.State{Gen: api.MaxGen}, 1<<58 - 1<<26},
		{api.State{Kind: api.Blocking, Cpu: 63, Seq: api.MaxSeq, Gen: api.MaxGen}, 1<<58 - 1 - 512},
		{api.State{Kind: api.Blocking, Cpu: 63, Bit: true, Seq: api.MaxSeq, Gen: api.MaxGen}, 1<<58 - 1},
		{api.State{Kind: api.Running, Cpu: 2, Seq: 3, Gen: 4}, 5 + 16 + 3072 + 4<<26},
	} {
		if w, errno := Pack(x.s); w != x.w || errno != api.OK {
			t.Errorf("Pack(%+v): %#x, %d; want %#x", x.s, w, errno, x.w)
		}
	}
	for _, x := range states() {
		checkState(t, x)
	}
	for _, kind := range kinds() {
		for _, cpu := range cpus() {
			checkState(t, api.State{Kind: kind, Cpu: cpu, Seq: 9, Gen: 1})
			checkState(t, api.State{Kind: kind, Cpu: cpu, Bit: true, Seq: 9, Gen: 1})
		}
	}
}

// F1, R1: what may not be, in one part alone or in several: ErrArg, and no word beside it.
func TestPackWrong(t *testing.T) {
	good := api.State{Kind: api.Blocking, Cpu: 1, Bit: true, Seq: 1, Gen: 1}
	for _, n := range []int{-1, -2, math.MinInt, math.MaxInt, 1 << 62} {
		for _, change := range []func(x *api.State){
			func(x *api.State) { x.Kind, x.Bit = n, false },
			func(x *api.State) { x.Kind = n },
			func(x *api.State) { x.Cpu = n },
			func(x *api.State) { x.Seq = n },
			func(x *api.State) { x.Gen = n },
			func(x *api.State) { x.Cpu, x.Seq, x.Gen = n, n, n },
		} {
			x := good
			change(&x)
			if w, errno := Pack(x); w != 0 || errno != api.ErrArg {
				t.Errorf("Pack(%+v): %#x, %d", x, w, errno)
			}
		}
	}
	for _, x := range []api.State{{Kind: 8}, {Kind: 8, Bit: true}, {Kind: 15, Bit: true}, {Cpu: 64}, {Cpu: 65}, {Seq: api.MaxSeq + 1}, {Gen: api.MaxGen + 1}} {
		if w, errno := Pack(x); w != 0 || errno != api.ErrArg {
			t.Errorf("Pack(%+v): %#x, %d", x, w, errno)
		}
	}
	for kind := api.Free; kind < api.Blocking; kind++ {
		if w, errno := Pack(api.State{Kind: kind, Cpu: 1, Bit: true, Seq: 1, Gen: 1}); w != 0 || errno != api.ErrArg {
			t.Errorf("Pack of %d with Bit: %#x, %d", kind, w, errno)
		}
	}
}

// F2: the word 0, words with one bit each, the greatest one; what has bits of no part, or Bit beside another kind than Blocking, is none, and no state is told beside the error.
func TestUnpack(t *testing.T) {
	for b := range 64 {
		x, errno := Unpack(1 << b)
		var want api.State
		fault := api.OK
		switch {
		case b < 3:
			want.Kind = 1 << b
		case b < 9:
			want.Cpu = 1 << (b - 3)
		case b == 9:
			fault = api.ErrArg
		case b < 26:
			want.Seq = 1 << (b - 10)
		case b < 58:
			want.Gen = 1 << (b - 26)
		default:
			fault = api.ErrArg
		}
		if x != want || errno != fault {
			t.Errorf("Unpack(1<<%d): %+v, %d; want %+v, %d", b, x, errno, want, fault)
		}
	}
	if x, errno := Unpack(0); x != (api.State{}) || errno != api.OK {
		t.Error(x, errno)
	}
	if x, errno := Unpack(1<<58 - 1); x != (api.State{Kind: api.Blocking, Cpu: 63, Bit: true, Seq: api.MaxSeq, Gen: api.MaxGen}) || errno != api.OK {
		t.Error(x, errno)
	}
	for _, w := range []uint64{512, 513, 518, 1<<58 - 2, 1 << 58, 1<<58 | 67108892, 1 << 63, 1<<63 | 7, 63 << 58, top, top - 512} {
		if x, errno := Unpack(w); x != (api.State{}) || errno != api.ErrArg {
			t.Errorf("Unpack(%#x): %+v, %d", w, x, errno)
		}
	}
	for _, w := range words() {
		checkWord(t, w)
	}
	for w := range uint64(1 << 12) { // all Kinds, CPUs and Bits, with little of Seq
		checkWord(t, w)
		checkWord(t, w|1<<57)
		checkWord(t, w|1<<58)
	}
}

// F3: of states' words, and of words that are none's.
func TestKindCpuGen(t *testing.T) {
	for _, x := range []struct {
		w              uint64
		kind, cpu, gen int
	}{
		{0, 0, 0, 0}, {67108892, 4, 3, 1}, {7, 7, 0, 0}, {8, 0, 1, 0}, {504, 0, 63, 0}, {1<<26 - 1024, 0, 0, 0}, {1<<58 - 1<<26, 0, 0, api.MaxGen}, {1<<58 - 1, 7, 63, api.MaxGen},
		{512, 0, 0, 0}, {517, 5, 0, 0}, {1 << 58, 0, 0, 0}, {1 << 63, 0, 0, 0}, {63 << 58, 0, 0, 0}, {1<<58 | 67108892, 4, 3, 1}, {1<<63 | 512 | 67108892, 4, 3, 1}, {top, 7, 63, api.MaxGen}, {top - 512, 7, 63, api.MaxGen},
	} {
		if Kind(x.w) != x.kind || Cpu(x.w) != x.cpu || Gen(x.w) != x.gen {
			t.Errorf("%#x: %d, %d, %d; want %d, %d, %d", x.w, Kind(x.w), Cpu(x.w), Gen(x.w), x.kind, x.cpu, x.gen)
		}
	}
}

// F4: Seq and Gen stay, Bit goes, also from Blocking to Blocking; a word that is none, and a kind or a CPU that may not be, is an error, with no word beside it.
func TestPut(t *testing.T) {
	bit, _ := Pack(api.State{Kind: api.Blocking, Cpu: 9, Bit: true, Seq: 7, Gen: 5})
	rest := uint64(7<<10 + 5<<26)
	for _, x := range []struct {
		w         uint64
		kind, cpu int
		v         uint64
		errno     api.Errno
	}{
		{67108892, api.Running, 2, 67108885, api.OK}, {67108892, api.Queued, 3, 67108892, api.OK}, {67108892, api.Blocking, 63, 67108864 + 511, api.OK}, {67108892, api.Free, 0, 67108864, api.OK},
		{bit, api.Blocking, 9, rest + 72 + 7, api.OK}, {bit, api.Asleep, 9, rest + 72 + 1, api.OK}, {bit, api.Listed, 0, rest + 3, api.OK}, {bit, api.Blocking, 63, rest + 511, api.OK},
		{0, 0, 0, 0, api.OK}, {0, api.Blocking, 63, 511, api.OK}, {1<<58 - 1, api.Free, 0, 1<<58 - 1024, api.OK},
		{0, -1, 0, 0, api.ErrArg}, {0, 8, 0, 0, api.ErrArg}, {0, 0, -1, 0, api.ErrArg}, {0, 0, 64, 0, api.ErrArg}, {0, -1, 64, 0, api.ErrArg},
		{bit, 8, 9, 0, api.ErrArg}, {bit, -1, 9, 0, api.ErrArg}, {bit, 15, 9, 0, api.ErrArg}, {bit, 7, 64, 0, api.ErrArg}, {bit, 7, -1, 0, api.ErrArg},
		{67108892, math.MinInt, 0, 0, api.ErrArg}, {67108892, math.MaxInt, 0, 0, api.ErrArg}, {67108892, 0, math.MinInt, 0, api.ErrArg}, {67108892, 0, math.MaxInt, 0, api.ErrArg},
		{512, 1, 1, 0, api.ErrArg}, {512, 7, 1, 0, api.ErrArg}, {1 << 58, 1, 1, 0, api.ErrArg}, {1<<58 | 67108892, 4, 3, 0, api.ErrArg}, {top, 1, 1, 0, api.ErrArg}, {1 << 63, 8, 64, 0, api.ErrArg},
	} {
		if v, errno := Put(x.w, x.kind, x.cpu); v != x.v || errno != x.errno {
			t.Errorf("Put(%#x, %d, %d): %#x, %d; want %#x, %d", x.w, x.kind, x.cpu, v, errno, x.v, x.errno)
		}
	}
	for _, w := range []uint64{0, bit, 67108892, 1<<58 - 1, 512, 1 << 58, top} {
		for _, kind := range kinds() {
			for _, cpu := range cpus() {
				checkPut(t, w, kind, cpu)
			}
		}
	}
}

// F5: Pack and Unpack undo each other, no two states have one word, and Put changes nothing but what it is told, and Bit; at all words and states of this file.
func TestTheorem(t *testing.T) {
	of := map[uint64]api.State{}
	for _, x := range states() {
		checkState(t, x)
		w, errno := Pack(x)
		if errno != api.OK {
			continue
		}
		if other, ok := of[w]; ok && other != x {
			t.Fatalf("%#x is the word of %+v and of %+v", w, other, x)
		}
		of[w] = x
	}
	for _, w := range words() {
		checkWord(t, w)
		for _, kind := range kinds() {
			checkPut(t, w, kind, 5)
			checkPut(t, w, kind, Cpu(w))
		}
		for _, cpu := range edges(63) {
			checkPut(t, w, api.Queued, cpu)
			checkPut(t, w, Kind(w), cpu)
		}
	}
}

// FuzzPacked holds all promises against the words of the chapter, at whatever numbers.
func FuzzPacked(f *testing.F) {
	f.Add(uint64(67108892), 4, 3, false, 0, 1)
	f.Add(uint64(1<<58-1), 7, 63, true, 1<<16-1, 1<<32-1)
	f.Add(top, -1, 64, true, math.MinInt, math.MaxInt)
	f.Fuzz(func(t *testing.T, w uint64, kind, cpu int, bit bool, seq, gen int) {
		checkState(t, api.State{Kind: kind, Cpu: cpu, Bit: bit, Seq: seq, Gen: gen})
		checkState(t, api.State{Kind: kind & 7, Cpu: cpu & 63, Bit: bit, Seq: seq & 65535, Gen: gen & 4294967295})
		for _, word := range []uint64{w, w >> 6, w>>6 | 7, w >> 6 &^ 512} {
			checkWord(t, word)
			checkPut(t, word, kind, cpu)
			checkPut(t, word, kind&7, cpu&63)
		}
	})
}
