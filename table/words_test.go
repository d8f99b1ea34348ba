package table

import (
	"slices"

	"turnspit/api"
)

// The words of the chapter, and what they lean on of layers 4, 6 and 7, told in another way than the program does it.

// noted is Blocking with Bit, where the chapter of layer 7 tells it from Blocking without.
const noted = 8

// parts are a word's; kind is noted of Blocking with Bit.
type parts struct{ kind, cpu, seq, gen int }

// word tells the word of p, by a sum.
func (p parts) word() uint64 {
	w := 8*uint64(p.cpu) + 1024*uint64(p.seq) + 67108864*uint64(p.gen)
	if p.kind == noted {
		return w + 512 + 7
	}
	return w + uint64(p.kind)
}

// split tells the parts of w, and true; false, if w is no state's word.
func split(w uint64) (parts, bool) {
	kind, bit, gen := int(w%8), int(w/512%2), w/67108864
	if gen > 4294967295 || bit == 1 && kind != 7 {
		return parts{}, false
	}
	return parts{kind + bit, int(w / 8 % 64), int(w / 1024 % 65536), int(gen)}, true
}

// rule is one of the table of layer 7's chapter: an event's kinds, and the one that it comes to.
type rule struct {
	of []int
	to int
}

// rules are that table, in the order of the events' numbers.
func rules() []rule {
	return []rule{
		{[]int{api.Free}, api.Asleep},
		{[]int{api.Asleep, api.Listed, api.Queued, api.Running}, api.Free},
		{[]int{api.Asleep}, api.Waking},
		{[]int{api.Waking}, api.Listed},
		{[]int{api.Waking, api.Listed}, api.Queued},
		{[]int{api.Queued}, api.Running},
		{[]int{api.Running}, api.Queued},
		{[]int{api.Running}, api.Blocking},
		{[]int{api.Blocking}, noted},
		{[]int{api.Blocking}, api.Asleep},
		{[]int{noted}, api.Listed},
		{[]int{api.Running}, api.Asleep},
		{[]int{api.Asleep}, api.Asleep},
		{[]int{api.Queued, api.Running}, api.Moving},
		{[]int{api.Moving}, api.Queued},
		{[]int{api.Queued}, api.Queued},
	}
}

// wantNext tells what layer 7 has a word go through.
func wantNext(w uint64, event, cpu int) (uint64, api.Errno) {
	p, ok := split(w)
	if !ok || event < 0 || event > 15 || cpu < 0 || cpu > 63 {
		return 0, api.ErrArg
	}
	r := rules()[event]
	if !slices.Contains(r.of, p.kind) {
		return 0, api.ErrOrder
	}
	if event == 0 && p.gen == 4294967295 {
		return 0, api.ErrFull
	}
	p.kind = r.to
	switch event {
	case 0:
		p.gen, p.seq, p.cpu = p.gen+1, 0, cpu
	case 1:
		p.seq, p.cpu = 0, 0
	case 2:
		p.seq = (p.seq + 1) % 65536
	case 11, 12, 13, 15:
		p.cpu = cpu
	}
	return p.word(), api.OK
}

// told is what a call tells of a table.
type told struct {
	t     api.Table
	h     api.Handle
	errno api.Errno
}

// equal tells whether two calls told the same.
func (a told) equal(b told) bool {
	return sameTable(a.t, b.t) && a.h == b.h && a.errno == b.errno
}

// sameTable tells whether two tables are the same.
func sameTable(a, b api.Table) bool {
	return slices.Equal(a.Words, b.Words) && slices.Equal(a.Tasks, b.Tasks)
}

// clone tells a table that is like t.
func clone(t api.Table) api.Table {
	return api.Table{Words: slices.Clone(t.Words), Tasks: slices.Clone(t.Tasks)}
}

// wantRight tells O1's Right.
func wantRight(t api.Table) bool {
	if len(t.Words) >= 65 || len(t.Tasks)-len(t.Words) != 0 {
		return false
	}
	wrong := 0
	for i, x := range t.Tasks {
		p, ok := split(t.Words[i])
		switch {
		case !ok:
			wrong++
		case p.kind == 0 && (x.Nice != 0 || x.Mask != 0 || x.Lag != 0):
			wrong++
		case p.kind != 0 && (x.Nice < -20 || x.Nice > 19 || x.Mask < 1 || x.Lag < -1125899906842624 || x.Lag > 1125899906842624):
			wrong++
		}
	}
	return wrong == 0
}

// wantCheck tells O2.
func wantCheck(t api.Table, h api.Handle) api.Errno {
	for i, w := range t.Words {
		if i == h.Slot {
			if w%8 != 0 && int(w/67108864%4294967296) == h.Gen {
				return api.OK
			}
			return api.ErrStale
		}
	}
	return api.ErrArg
}

// wantCreate tells O3.
func wantCreate(t api.Table, cpus, nice int, m uint64) told {
	if !wantRight(t) {
		return told{errno: api.ErrOrder}
	}
	if cpus < 1 || cpus > 64 || nice < -20 || nice > 19 {
		return told{errno: api.ErrArg}
	}
	first, in := -1, uint64(0)
	for c := cpus - 1; c >= 0; c-- {
		if m>>c%2 == 1 {
			first, in = c, in+1<<c
		}
	}
	if first < 0 {
		return told{errno: api.ErrArg}
	}
	for i, w := range t.Words {
		if v, errno := wantNext(w, 0, first); errno == api.OK {
			u := clone(t)
			u.Words[i], u.Tasks[i] = v, api.Task{Nice: nice, Mask: in}
			return told{t: u, h: api.Handle{Slot: i, Gen: int(v / 67108864)}}
		}
	}
	return told{errno: api.ErrFull}
}

// wantPass tells t behind the event of that slot, with its task, if it is still there.
func wantPass(t api.Table, slot, event, cpu int) told {
	v, errno := wantNext(t.Words[slot], event, cpu)
	if errno != api.OK {
		return told{errno: errno}
	}
	u := clone(t)
	u.Words[slot] = v
	if v%8 == 0 {
		u.Tasks[slot] = api.Task{}
	}
	return told{t: u}
}

// wantExit tells O4.
func wantExit(t api.Table, h api.Handle) told {
	if !wantRight(t) {
		return told{errno: api.ErrOrder}
	}
	if errno := wantCheck(t, h); errno != api.OK {
		return told{errno: errno}
	}
	return wantPass(t, h.Slot, 1, 0)
}

// wantStep tells O5's Step.
func wantStep(t api.Table, slot, event, cpu int) told {
	if !wantRight(t) {
		return told{errno: api.ErrOrder}
	}
	if slot < 0 || slot >= len(t.Words) || event == 0 || event == 1 {
		return told{errno: api.ErrArg}
	}
	return wantPass(t, slot, event, cpu)
}

// wantLive tells O5's Live.
func wantLive(t api.Table) []api.Handle {
	l := make([]api.Handle, 0)
	for i := len(t.Words) - 1; i >= 0; i-- {
		if w := t.Words[i]; w%8 != 0 {
			l = append(l, api.Handle{Slot: i, Gen: int(w / 67108864 % 4294967296)})
		}
	}
	slices.Reverse(l)
	return l
}
