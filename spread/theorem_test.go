package spread

import (
	"slices"
	"testing"

	"turnspit/api"
)

// drawnLoad tells a load: small ones, ones near the edges, and whatever ones.
func drawnLoad(next func() uint64) int {
	n := int(next()>>(23+next()%41)) % (top + 1)
	if next()%8 == 0 {
		return top - n>>(next()%41)
	}
	return n
}

// drawnCands tells so many, each with a number of its own, in whatever order.
func drawnCands(next func() uint64, n int) []api.Cand {
	var l []api.Cand
	shift := next() % 17
	for id := range n {
		w := 1 + int(next()%most)>>shift
		if next()%16 == 0 {
			w = []int{1, 2, 15, 1024, most - 1, most}[next()%6]
		}
		m := next() | next()
		if next()%4 == 0 {
			m = []uint64{0, 1, 1 << 63, every}[next()%4]
		}
		l = append(l, api.Cand{Id: id, Weight: w, Mask: m})
	}
	for i := range l {
		k := int(next() % uint64(i+1))
		l[i], l[k] = l[k], l[i]
	}
	return l
}

// drawnLoads tells here and there: there is often as much more as what l may bring over.
func drawnLoads(next func() uint64, l []api.Cand) (int, int) {
	here, there := drawnLoad(next), drawnLoad(next)
	if next()%4 > 0 {
		sum := 0
		for _, c := range l {
			sum += c.Weight
		}
		here %= top - 4*64*most
		there = here + int(next()%uint64(2*sum+3))
	}
	return here, there
}

// N2: lists that are drawn.
func TestDrawn(t *testing.T) {
	next := draw(2)
	for range 4000 {
		l := drawnCands(next, int(next()%66))
		here, there := drawnLoads(next, l)
		checkWords(t, int(next()%65), here, there, l, int(next()%70))
		if len(l) > 0 {
			i := next() % uint64(len(l))
			l[i].Weight = int(next()) >> (next() % 64)
			checkWords(t, int(next()%64), here, there, l, int(next()%70))
		}
	}
}

// moved tells the loads behind that move, and l without who went.
func moved(t *testing.T, here, there int, l []api.Cand, id int) (int, int, []api.Cand) {
	t.Helper()
	i := slices.IndexFunc(l, func(c api.Cand) bool { return c.Id == id })
	if i < 0 {
		t.Fatalf("%d went, who is not of %v", id, l)
	}
	w := l[i].Weight
	return here + w, there - w, slices.Delete(slices.Clone(l), i, i+1)
}

// checkTheorem holds N4 of one list, and of each lesser number of those that may go.
func checkTheorem(t *testing.T, to, here, there int, l []api.Cand) {
	t.Helper()
	whole, errno := Plan(to, here, there, l, len(l))
	if errno != api.OK {
		t.Fatal(errno)
	}
	for n := range len(l) + 2 {
		if ids, e := Plan(to, here, there, l, n); e != api.OK || !slices.Equal(ids, whole[:min(n, len(whole))]) {
			t.Fatalf("of %v at most %d: %v; at most all: %v", l, n, ids, whole)
		}
	}
	rest := l
	for _, id := range whole {
		more := there - here
		if ids, e := Plan(to, here, there, rest, 1); e != api.OK || len(ids) != 1 || ids[0] != id {
			t.Fatalf("of %v the next one: %v; of all ahead %v", rest, ids, whole)
		}
		here, there, rest = moved(t, here, there, rest, id)
		if there-here > more || more >= 0 && there-here < 0 || here < 0 || here > top || there < 0 || there > top {
			t.Fatalf("%d went, and what there has more came from %d to %d: %v", id, more, there-here, whole)
		}
	}
	checkNobodyLeft(t, to, here, there, rest)
}

// checkNobodyLeft holds that none of these may go and would be a gain.
func checkNobodyLeft(t *testing.T, to, here, there int, rest []api.Cand) {
	t.Helper()
	for _, c := range rest {
		if c.Mask>>to&1 == 1 && Gain(here, there, c.Weight) {
			t.Fatalf("%v is left, here %d, there %d", c, here, there)
		}
	}
	if ids, e := Plan(to, here, there, rest, 64); e != api.OK || len(ids) > 0 {
		t.Fatalf("of those left %v, here %d, there %d: %v", rest, here, there, ids)
	}
}

// N4: long rows of tasks, in whatever order.
func TestTheorem(t *testing.T) {
	next := draw(3)
	went := 0
	for i := range 1500 {
		n := 64
		if i%3 == 0 {
			n = int(next() % 65)
		}
		l := drawnCands(next, n)
		here, there := drawnLoads(next, l)
		to := int(next() % 64)
		checkTheorem(t, to, here, there, l)
		ids, _ := Plan(to, here, there, l, 64)
		went += len(ids)
	}
	if went < 15000 {
		t.Fatal("hardly anybody went", went)
	}
}

// N4: one row after the other, in other orders: here and there come nearer, till nobody is left who would be a gain.
func TestTheoremOfManyRows(t *testing.T) {
	next := draw(4)
	for range 100 {
		l := drawnCands(next, 64)
		here, there := drawnLoads(next, l)
		to := int(next() % 64)
		for {
			ids, errno := Plan(to, here, there, l, api.MaxMoves)
			if errno != api.OK || len(ids) > api.MaxMoves {
				t.Fatal(ids, errno)
			}
			if len(ids) == 0 {
				break
			}
			more := there - here
			for _, id := range ids {
				here, there, l = moved(t, here, there, l, id)
			}
			if there-here >= more || there < here {
				t.Fatal(more, here, there)
			}
			for i := range l {
				k := int(next() % uint64(i+1))
				l[i], l[k] = l[k], l[i]
			}
		}
		checkNobodyLeft(t, to, here, there, l)
	}
}

// FuzzSpread holds N1 to N4 of whatever comes.
func FuzzSpread(f *testing.F) {
	f.Add(0, 0, 100, 9, 1, []byte{10, 30, 40, 60})
	f.Add(63, 1<<40-2, 1<<40, 1, 88761, []byte{1, 1})
	f.Add(64, -1, 1<<40+1, -1, 0, []byte{})
	f.Fuzz(func(t *testing.T, to, here, there, k, w int, row []byte) {
		checkGain(t, here, there, w)
		var l []api.Cand
		var loads []int
		for i, b := range row {
			l = append(l, api.Cand{Id: i, Weight: 1 + int(b>>2), Mask: every << (b & 3 * 20)})
			loads = append(loads, int(b))
		}
		checkWords(t, to, here, there, l, k)
		checkPlaces(t, loads, k, wantBusiest(loads, k), wantIdlest(loads, k))
		if wantPlan(to, here, there, l, 0).errno == api.OK {
			checkTheorem(t, to, here, there, l)
		}
		if len(l) > 0 {
			l[uint(k)%uint(len(l))].Weight = w
			checkWords(t, to, here, there, l, len(l))
		}
	})
}
