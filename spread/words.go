package spread

import (
	"iter"

	"turnspit/api"
	"turnspit/mask"
)

const (
	mostLoad   = 1 << 40
	mostWeight = 88761 // of who is the least nice
)

// isLoad tells whether n is a load.
func isLoad(n int) bool { return n >= 0 && n <= mostLoad }

// isCpu tells whether c is a CPU.
func isCpu(c int) bool { return c >= 0 && c < api.MaxCpus }

// areWeights tells whether tasks may weigh what those of l do.
func areWeights(l []api.Cand) bool {
	for _, c := range l {
		if c.Weight < 1 || c.Weight > mostWeight {
			return false
		}
	}
	return true
}

// allowed goes through those of l whose masks have the CPU to, the last one first.
func allowed(l []api.Cand, to int) iter.Seq[api.Cand] {
	return func(yield func(api.Cand) bool) {
		for i := len(l) - 1; i >= 0; i-- {
			if mask.Has(l[i].Mask, to) && !yield(l[i]) {
				return
			}
		}
	}
}

// foremost tells the place of the first one of l, but that at place but, that no other one is ahead of, and true; 0 and false, if there is none.
func foremost[T any](l []T, but int, ahead func(a, b T) bool) (int, bool) {
	place, is := 0, false
	for i, x := range l {
		if i != but && (!is || ahead(x, l[place])) {
			place, is = i, true
		}
	}
	return place, is
}
