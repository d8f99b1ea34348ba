package spread

import (
	"cmp"
	"math/big"
	"slices"

	"turnspit/api"
)

// The words of the chapter, told in another way than the program does it.

// wantLoad tells whether n is a number from 0 to 2^40.
func wantLoad(n int) bool { return n == 0 || n > 0 && uint64(n-1)>>40 == 0 }

// wantGain tells N1, with numbers that do not go round.
func wantGain(here, there, weight int) bool {
	twice := new(big.Int).Mul(big.NewInt(2), big.NewInt(int64(weight)))
	less := new(big.Int).Sub(big.NewInt(int64(there)), big.NewInt(int64(here)))
	return wantLoad(here) && wantLoad(there) && weight > 0 && twice.Cmp(less) <= 0
}

// told is what Plan tells.
type told struct {
	ids   []int
	errno api.Errno
}

func (a told) equal(b told) bool { return slices.Equal(a.ids, b.ids) && a.errno == b.errno }

// wantPlan tells N2.
func wantPlan(to, here, there int, l []api.Cand, most int) told {
	if len(l) > 64 {
		return told{errno: api.ErrLong}
	}
	wrong := []bool{to < 0, to > 63, !wantLoad(here), !wantLoad(there), most < 0}
	for _, c := range l {
		wrong = append(wrong, c.Weight < 1, c.Weight > 88761)
	}
	if slices.Contains(wrong, true) {
		return told{errno: api.ErrArg}
	}
	return told{ids: wantGoing(to, here, there, l, most)}
}

// wantGoing tells who goes: the last one of l, if that one may and most allows for it, and who goes then of those ahead.
func wantGoing(to, here, there int, l []api.Cand, most int) []int {
	n := len(l)
	if n == 0 || most == 0 {
		return nil
	}
	c := l[n-1]
	power := uint64(1)
	for range to {
		power *= 2
	}
	if c.Mask/power%2 == 1 && wantGain(here, there, c.Weight) {
		return append([]int{c.Id}, wantGoing(to, here+c.Weight, there-c.Weight, l[:n-1], most-1)...)
	}
	return wantGoing(to, here, there, l[:n-1], most)
}

// place is what Busiest or Idlest tells.
type place struct {
	at int
	is bool
}

// wantIn tells N3 of that order: all places but that one, sorted by it and then by themselves, and the first one of these.
func wantIn(loads []int, but int, order func(a, b int) int) place {
	var l []int
	for i := range loads {
		if i != but {
			l = append(l, i)
		}
	}
	if len(l) == 0 {
		return place{}
	}
	return place{slices.MinFunc(l, func(a, b int) int { return cmp.Or(order(loads[a], loads[b]), cmp.Compare(a, b)) }), true}
}

func wantBusiest(loads []int, but int) place {
	return wantIn(loads, but, func(a, b int) int { return cmp.Compare(b, a) })
}

func wantIdlest(loads []int, but int) place {
	return wantIn(loads, but, func(a, b int) int { return cmp.Compare(a, b) })
}
