package spread

import (
	"math"
	"slices"
	"testing"

	"turnspit/api"
)

const (
	least    = math.MinInt
	greatest = math.MaxInt
	top      = 1 << 40 // the greatest load
	most     = 88761   // the greatest weight
)

// every is a mask that has all CPUs.
const every uint64 = 1<<64 - 1

// strays are numbers that are no loads.
func strays() []int {
	return []int{least, least + 1, -top - 1, -top, -2, -1, top + 1, top + 2, 1 << 41, 1 << 62, greatest - 1, greatest}
}

// loadsAtEdges are loads at the edges, and some between.
func loadsAtEdges() []int {
	return []int{0, 1, 2, 3, 19, 20, 59, 60, most, 2 * most, 2*most + 1, 1 << 32, top / 2, top - 2, top - 1, top}
}

// draw tells a row of numbers that looks like chance, and is the same each time.
func draw(seed uint64) func() uint64 {
	x := seed
	return func() uint64 {
		x += 0x9e3779b97f4a7c15
		z := x
		z = (z ^ z>>30) * 0xbf58476d1ce4e5b9
		z = (z ^ z>>27) * 0x94d049bb133111eb
		return z ^ z>>31
	}
}

// cand tells who may be moved anywhere.
func cand(id, weight int) api.Cand { return api.Cand{Id: id, Weight: weight, Mask: every} }

// cands tells those of these weights, with 1, 2 and so on as their Ids, who may all be moved anywhere.
func cands(weights ...int) []api.Cand {
	var l []api.Cand
	for i, w := range weights {
		l = append(l, cand(i+1, w))
	}
	return l
}

// same tells n of that weight.
func same(n, weight int) []api.Cand { return cands(slices.Repeat([]int{weight}, n)...) }

// guarded tells l with others behind its length, and a function that says whether all of these are as they were.
func guarded[T comparable](l []T, behind ...T) ([]T, func() bool) {
	all := append(slices.Clone(l), behind...)
	was := slices.Clone(all)
	return all[:len(l)], func() bool { return slices.Equal(all, was) }
}

// checkGain holds N1.
func checkGain(t *testing.T, here, there, weight int) {
	t.Helper()
	want := wantGain(here, there, weight)
	for range 2 {
		if got := Gain(here, there, weight); got != want {
			t.Fatalf("Gain(%d, %d, %d): %t", here, there, weight, got)
		}
	}
}

// checkPlan holds N2 against that, twice, and that nothing is written into, also not by who writes into what is told.
func checkPlan(t *testing.T, to, here, there int, l []api.Cand, most int, want told) {
	t.Helper()
	in, kept := guarded(l, cand(77, 1), cand(78, 0), api.Cand{Id: 79, Weight: 5})
	for range 2 {
		ids, errno := Plan(to, here, there, in, most)
		if got := (told{ids, errno}); !got.equal(want) {
			t.Fatalf("Plan(%d, %d, %d, %v, %d): %v; want %v", to, here, there, l, most, got, want)
		}
		ids = ids[:cap(ids)]
		for i := range ids {
			ids[i] = 4711
		}
		if !kept() {
			t.Fatalf("Plan(%d, %d, %d, %v, %d) wrote into the list", to, here, there, l, most)
		}
	}
}

// checkWords holds N2 against the chapter's words.
func checkWords(t *testing.T, to, here, there int, l []api.Cand, most int) {
	t.Helper()
	checkPlan(t, to, here, there, l, most, wantPlan(to, here, there, l, most))
}

// checkPlaces holds N3 against these, twice, and that nothing is written into.
func checkPlaces(t *testing.T, loads []int, but int, busiest, idlest place) {
	t.Helper()
	in, kept := guarded(loads, greatest, least, 5)
	for range 2 {
		at, is := Busiest(in, but)
		if got := (place{at, is}); got != busiest {
			t.Fatalf("Busiest(%d, %d): %v; want %v", loads, but, got, busiest)
		}
		at, is = Idlest(in, but)
		if got := (place{at, is}); got != idlest {
			t.Fatalf("Idlest(%d, %d): %v; want %v", loads, but, got, idlest)
		}
	}
	if !kept() {
		t.Fatalf("Busiest or Idlest of %d wrote into it", loads)
	}
}
