package spread

import (
	"slices"
	"testing"

	"turnspit/api"
)

// The chapter's example.
func TestExample(t *testing.T) {
	l := []api.Cand{{Id: 1, Weight: 10, Mask: 1}, {Id: 2, Weight: 30, Mask: 1}, {Id: 3, Weight: 40, Mask: 2}, {Id: 4, Weight: 60, Mask: 1}}
	checkPlan(t, 0, 0, 100, l, 9, told{ids: []int{2, 1}})
}

// N1: ordinary numbers, twice the weight at there less here and about it, and what is no load or no weight.
func TestGain(t *testing.T) {
	for _, x := range []struct {
		here, there, weight int
		want                bool
	}{
		{0, 60, 29, true}, {0, 60, 30, true}, {0, 60, 31, false}, {0, 59, 29, true}, {0, 59, 30, false}, {40, 100, 30, true}, {41, 100, 30, false}, {40, 99, 30, false},
		{0, 2, 1, true}, {0, 1, 1, false}, {0, 0, 1, false}, {1, 0, 1, false}, {7, 7, 1, false}, {7, 9, 1, true}, {7, 8, 1, false},
		{0, 60, 0, false}, {0, 60, -1, false}, {60, 0, -30, false}, {60, 0, -31, false}, {60, 0, -29, false}, {5, 5, 0, false}, {5, 5, -1, false}, {0, 60, least, false}, {0, 60, least + 1, false},
		{0, 60, greatest, false}, {0, 60, 1 << 62, false}, {0, 60, 1<<62 + 1, false}, {0, 60, 1<<62 - 1, false}, {0, 0, least, false}, {0, top, greatest, false}, {0, top, 1 << 62, false},
		{0, top, top / 2, true}, {0, top, top/2 + 1, false}, {0, top, 1, true}, {0, top - 1, top / 2, false}, {0, top - 1, top/2 - 1, true}, {1, top, top / 2, false}, {top, top, 1, false},
		{top - 2, top, 1, true}, {top - 1, top, 1, false}, {top, 0, 1, false}, {0, top, most, true}, {0, top, most + 1, true}, {0, top + 1, 1, false}, {0, top + 2, 1, false},
		{-1, 60, 1, false}, {-1, 1, 1, false}, {-2, 0, 1, false}, {-4, -2, 1, false}, {0, -1, 1, false}, {top + 1, top + 3, 1, false}, {top + 1, top, 1, false},
		{least, 0, 1, false}, {least, top, 1, false}, {least, greatest, 1, false}, {greatest, least, 1, false}, {0, greatest, 1, false}, {0, least, 1, false}, {greatest, 0, 1, false}, {greatest, greatest, 1, false}, {least, least, 1, false}, {least, greatest, greatest, false},
	} {
		if wantGain(x.here, x.there, x.weight) != x.want {
			t.Fatal("the test's own words are wrong", x)
		}
		checkGain(t, x.here, x.there, x.weight)
	}
}

// N1: all pairs at the edges, and weights at just half of what there has more, and beside it.
func TestGainAtEdges(t *testing.T) {
	l := append(loadsAtEdges(), strays()...)
	for _, here := range l {
		for _, there := range l {
			half := (there - here) / 2
			for _, w := range []int{half - 1, half, half + 1, half + 2, -half, least, least + 1, -1, 0, 1, 2, most, top, 1 << 62, 1<<62 + half, greatest} {
				checkGain(t, here, there, w)
			}
		}
	}
}

// N1: all small numbers.
func TestGainOfSmall(t *testing.T) {
	for here := -2; here <= 12; here++ {
		for there := -2; there <= 12; there++ {
			for w := -3; w <= 8; w++ {
				checkGain(t, here, there, w)
			}
		}
	}
}

// N2: who goes, and in which order.
func TestPlan(t *testing.T) {
	mixed := []api.Cand{{Id: 1, Weight: 10, Mask: 1}, {Id: 2, Weight: 30, Mask: 1}, {Id: 3, Weight: 40, Mask: 2}, {Id: 4, Weight: 60, Mask: 1}}
	for _, x := range []struct {
		to, here, there int
		l               []api.Cand
		most            int
		want            []int
	}{
		// How many may go.
		{0, 0, 100, mixed, 0, nil}, {0, 0, 100, mixed, 1, []int{2}}, {0, 0, 100, mixed, 2, []int{2, 1}}, {0, 0, 100, mixed, 3, []int{2, 1}}, {0, 0, 100, mixed, greatest, []int{2, 1}},
		{0, 0, 1000, cands(1, 2, 3), 0, nil}, {0, 0, 1000, cands(1, 2, 3), 1, []int{3}}, {0, 0, 1000, cands(1, 2, 3), 2, []int{3, 2}}, {0, 0, 1000, cands(1, 2, 3), 3, []int{3, 2, 1}}, {0, 0, 1000, cands(1, 2, 3), 4, []int{3, 2, 1}},
		// Where they may go.
		{1, 0, 100, mixed, 9, []int{3}}, {2, 0, 100, mixed, 9, nil}, {63, 0, 100, mixed, 9, nil}, {63, 0, 100, []api.Cand{{Id: 5, Weight: 3, Mask: 1 << 63}, {Id: 6, Weight: 3, Mask: 1<<63 - 1}, {Id: 7, Weight: 3}}, 9, []int{5}},
		{0, 0, 100, []api.Cand{{Id: 5, Weight: 3, Mask: 1}, {Id: 6, Weight: 3, Mask: every - 1}}, 9, []int{5}},
		// What is a gain, and what is one no more.
		{0, 0, 120, mixed, 9, []int{4}}, {0, 0, 119, mixed, 9, []int{2, 1}}, {0, 0, 140, mixed, 9, []int{4, 1}}, {0, 0, 19, mixed, 9, nil}, {0, 0, 20, mixed, 9, []int{1}}, {0, 100, 0, mixed, 9, nil}, {0, 100, 100, mixed, 9, nil}, {0, 7, 107, mixed, 9, []int{2, 1}}, {0, 8, 107, mixed, 9, []int{2, 1}},
		{0, 0, 60, cands(10, 10, 10, 10), 9, []int{4, 3, 2}}, {0, 0, 59, cands(10, 10, 10, 10), 9, []int{4, 3}}, {0, 0, 61, cands(10, 10, 10, 10), 9, []int{4, 3, 2}}, {0, 0, 62, cands(1, 10, 10, 10, 10), 9, []int{5, 4, 3, 1}},
		{0, 0, 10, cands(1, 5), 9, []int{2}}, {0, 0, 10, cands(5, 1), 9, []int{2}}, {0, 0, 12, cands(5, 1), 9, []int{2, 1}}, {0, 0, 12, cands(1, 5), 9, []int{2, 1}}, {0, 0, 11, cands(1, 5), 9, []int{2}},
		{0, 0, 2, cands(1, 1), 9, []int{2}}, {0, 0, 1, cands(1, 1), 9, nil}, {0, 0, 0, cands(1, 1), 9, nil}, {0, 0, 4, cands(1, 1), 9, []int{2, 1}},
		// Nobody at all, and loads at the edges.
		{0, 0, 0, nil, 0, nil}, {63, top, top, nil, 9, nil}, {0, 0, top, nil, 9, nil}, {0, 0, top, cands(most, 1, most), 9, []int{3, 2, 1}}, {0, top, 0, cands(1), 9, nil}, {0, top - 2, top, cands(1, 1), 9, []int{2}}, {0, top - 1, top, cands(1), 9, nil}, {0, top, top, cands(1), 9, nil},
		{0, 0, 2 * most, cands(1, most), 9, []int{2}}, {0, 0, 2*most - 1, cands(1, most), 9, []int{1}}, {0, 0, 2*most + 2, cands(1, most), 9, []int{2, 1}},
		// Ids are told as they stand, whatever they are.
		{0, 0, 100, []api.Cand{cand(least, 1), cand(greatest, 2), cand(-1, 3), cand(64, 4), cand(0, 5), cand(0, 6), cand(-1, 7)}, 9, []int{-1, 0, 0, 64, -1, greatest, least}},
	} {
		want := told{ids: x.want}
		if !wantPlan(x.to, x.here, x.there, x.l, x.most).equal(want) {
			t.Fatal("the test's own words are wrong", x)
		}
		checkPlan(t, x.to, x.here, x.there, x.l, x.most, want)
	}
}

// N2: as many as there may be, of whom all go, or some; and one more of them.
func TestPlanOfMany(t *testing.T) {
	whole := make([]int, 64)
	for i := range whole {
		whole[i] = 64 - i
	}
	for _, x := range []struct {
		n, there, most int
		want           told
	}{
		{64, 128, 64, told{ids: whole}}, {64, 128, 63, told{ids: whole[:63]}}, {64, 128, 65, told{ids: whole}}, {64, 127, 64, told{ids: whole[:63]}}, {64, 126, 64, told{ids: whole[:63]}}, {64, top, greatest, told{ids: whole}}, {64, 0, 64, told{}},
		{63, 128, 64, told{ids: whole[1:]}}, {65, 130, 65, told{errno: api.ErrLong}}, {65, 130, 0, told{errno: api.ErrLong}}, {66, 130, 1, told{errno: api.ErrLong}}, {1000, 130, 1, told{errno: api.ErrLong}},
	} {
		checkPlan(t, 5, 0, x.there, same(x.n, 1), x.most, x.want)
	}
}

// N2: what is wrong, and nothing is told beside it.
func TestPlanErrors(t *testing.T) {
	wrong := told{errno: api.ErrArg}
	for _, l := range [][]api.Cand{nil, {}, cands(1), cands(1, 2, 3), same(64, 1)} {
		for _, to := range []int{least, -64, -2, -1, 64, 65, 128, 1 << 32, greatest} {
			checkPlan(t, to, 0, 1000, l, 9, wrong)
		}
		for _, n := range strays() {
			checkPlan(t, 0, n, 1000, l, 9, wrong)
			checkPlan(t, 0, 0, n, l, 9, wrong)
		}
		for _, n := range []int{least, -64, -2, -1} {
			checkPlan(t, 0, 0, 1000, l, n, wrong)
		}
		checkWords(t, 0, 0, 1000, l, 9)
		checkWords(t, 63, top, top, l, 0)
	}
}

// N2: a weight that may not be, at each place; also of who may not go, could not, or is not come by.
func TestPlanWeights(t *testing.T) {
	for i := range 64 {
		for _, w := range []int{least, -1, 0, 1, 2, most - 1, most, most + 1, top, 1 << 62, greatest} {
			l := same(64, 1)
			l[i].Weight = w
			for _, m := range []uint64{every, 1, 2, 0} {
				l[i].Mask = m
				for _, k := range []int{0, 1, 64} {
					checkWords(t, 0, 0, top, l, k)
					checkWords(t, 0, top, 0, l, k)
				}
			}
		}
	}
	checkPlan(t, 0, 0, top, cands(1, 0, 1), 1, told{errno: api.ErrArg})
	checkPlan(t, 0, 0, top, cands(most+1, 1, 1), 1, told{errno: api.ErrArg})
	checkPlan(t, 0, 0, top, []api.Cand{cand(1, 1), {Id: 2}}, 9, told{errno: api.ErrArg})
}

// N2: where several errors apply.
func TestPlanOrder(t *testing.T) {
	for _, to := range []int{-1, 0, 64} {
		for _, here := range []int{-1, 0, top + 1} {
			for _, there := range []int{-1, 0, top + 1} {
				for _, n := range []int{-1, 0, 1} {
					for _, w := range []int{0, 1, most + 1} {
						checkPlan(t, to, here, there, same(65, w), n, told{errno: api.ErrLong})
						checkWords(t, to, here, there, same(64, w), n)
						checkWords(t, to, here, there, nil, n)
					}
				}
			}
		}
	}
}

// N2: each CPU, and masks that have it alone, or all but it.
func TestPlanCpus(t *testing.T) {
	for to := range 64 {
		only, others := api.Cand{Id: 1, Weight: 1, Mask: 1 << to}, api.Cand{Id: 2, Weight: 1, Mask: every &^ (1 << to)}
		for _, l := range [][]api.Cand{{only, others}, {others, only}} {
			checkPlan(t, to, 0, 100, l, 9, told{ids: []int{1}})
			checkWords(t, (to+1)%64, 0, 100, l, 9)
			checkWords(t, (to+63)%64, 0, 100, l, 9)
		}
	}
}

// N2: all short lists of small weights, about small loads.
func TestPlanOfShort(t *testing.T) {
	for code := range 8 * 8 * 8 {
		var l []api.Cand
		for n := code; n > 0; n /= 8 {
			l = append(l, api.Cand{Id: len(l), Weight: 1 + n%4, Mask: 2 + uint64(n%8/4)})
		}
		for here := range 3 {
			for there := range 14 {
				for n := range 4 {
					checkWords(t, 0, here, there, l, n)
					checkWords(t, 1, here, there, l, n)
				}
			}
		}
	}
}

// N3: the places.
func TestPlaces(t *testing.T) {
	none := place{}
	at := func(n int) place { return place{n, true} }
	for _, x := range []struct {
		loads           []int
		but             int
		busiest, idlest place
	}{
		{nil, 0, none, none}, {nil, -1, none, none}, {[]int{}, 5, none, none}, {nil, least, none, none}, {nil, greatest, none, none},
		{[]int{4}, 0, none, none}, {[]int{4}, -1, at(0), at(0)}, {[]int{4}, 1, at(0), at(0)}, {[]int{4}, least, at(0), at(0)}, {[]int{4}, greatest, at(0), at(0)}, {[]int{0}, 0, none, none}, {[]int{0}, 1, at(0), at(0)},
		{[]int{least}, 1, at(0), at(0)}, {[]int{greatest}, 1, at(0), at(0)}, {[]int{least}, 0, none, none}, {[]int{greatest}, 0, none, none},
		{[]int{3, 9, 9, 3}, -1, at(1), at(0)}, {[]int{3, 9, 9, 3}, 1, at(2), at(0)}, {[]int{3, 9, 9, 3}, 0, at(1), at(3)}, {[]int{3, 9, 9, 3}, 2, at(1), at(0)}, {[]int{3, 9, 9, 3}, 3, at(1), at(0)}, {[]int{3, 9, 9, 3}, 4, at(1), at(0)}, {[]int{3, 9, 9, 3}, 1 << 32, at(1), at(0)}, {[]int{3, 9, 9, 3}, 1<<32 + 1, at(1), at(0)},
		{[]int{7, 7, 7}, -1, at(0), at(0)}, {[]int{7, 7, 7}, 0, at(1), at(1)}, {[]int{7, 7, 7}, 1, at(0), at(0)}, {[]int{7, 7, 7}, 2, at(0), at(0)}, {[]int{0, 0}, 0, at(1), at(1)}, {[]int{0, 0}, 1, at(0), at(0)},
		{[]int{1, 2}, 0, at(1), at(1)}, {[]int{1, 2}, 1, at(0), at(0)}, {[]int{2, 1}, 0, at(1), at(1)}, {[]int{1, 2, 3}, 2, at(1), at(0)}, {[]int{1, 2, 3}, 0, at(2), at(1)}, {[]int{3, 2, 1}, 0, at(1), at(2)}, {[]int{3, 2, 1}, 2, at(0), at(1)},
		{[]int{-5, -9}, 7, at(0), at(1)}, {[]int{-5, -9}, 0, at(1), at(1)}, {[]int{-1, 0, 1}, -1, at(2), at(0)}, {[]int{-1, -1}, 0, at(1), at(1)},
		{[]int{least, greatest}, -1, at(1), at(0)}, {[]int{greatest, least}, -1, at(0), at(1)}, {[]int{least, greatest}, 1, at(0), at(0)}, {[]int{least, greatest}, 0, at(1), at(1)}, {[]int{greatest, 0, least}, 0, at(1), at(2)}, {[]int{least, 0, greatest}, 0, at(2), at(1)},
		{[]int{least, least, greatest, greatest}, -1, at(2), at(0)}, {[]int{least, least, greatest, greatest}, 0, at(2), at(1)}, {[]int{least, least, greatest, greatest}, 2, at(3), at(0)}, {[]int{least, least}, 0, at(1), at(1)}, {[]int{greatest, greatest}, 0, at(1), at(1)}, {[]int{least + 1, least, least}, -1, at(0), at(1)}, {[]int{greatest - 1, greatest, greatest}, -1, at(1), at(0)},
		{[]int{-1 << 62, 1 << 62, -1<<62 - 1, 1<<62 + 1}, -1, at(3), at(2)},
	} {
		if wantBusiest(x.loads, x.but) != x.busiest || wantIdlest(x.loads, x.but) != x.idlest {
			t.Fatal("the test's own words are wrong", x)
		}
		checkPlaces(t, x.loads, x.but, x.busiest, x.idlest)
	}
}

// N3: all short rows of small numbers, and each place left out.
func TestPlacesOfShort(t *testing.T) {
	for length := range 6 {
		rows := 1
		for range length {
			rows *= 4
		}
		for code := range rows {
			loads := make([]int, length)
			for i, n := 0, code; i < length; i, n = i+1, n/4 {
				loads[i] = n%4 - 1
			}
			for but := -1; but <= length; but++ {
				checkPlaces(t, loads, but, wantBusiest(loads, but), wantIdlest(loads, but))
			}
		}
	}
}

// N3: long rows, with few numbers and with many.
func TestPlacesOfMany(t *testing.T) {
	next := draw(1)
	for i := range 2000 {
		loads := make([]int, next()%200)
		for k := range loads {
			loads[k] = int(next()) >> (next() % 64)
			if i%2 == 0 {
				loads[k] = int(next() % 5)
			}
		}
		but := int(next()%uint64(len(loads)+3)) - 1
		if b, is := Busiest(loads, -1); is && i%4 == 0 {
			but = b
		}
		if x, is := Idlest(loads, -1); is && i%4 == 1 {
			but = x
		}
		checkPlaces(t, loads, but, wantBusiest(loads, but), wantIdlest(loads, but))
	}
	long := slices.Repeat([]int{1, 0, 2}, 50000)
	checkPlaces(t, long, -1, place{2, true}, place{1, true})
	checkPlaces(t, long, 2, place{5, true}, place{1, true})
	checkPlaces(t, long, 1, place{2, true}, place{4, true})
}
