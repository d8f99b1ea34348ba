package table

import (
	"slices"

	"turnspit/api"
	"turnspit/packed"
)

// isNice tells whether one may be as nice as n.
func isNice(n int) bool { return n >= api.MinNice && n <= api.MaxNice }

// fits tells whether w is a state's word, and x may be the task of its slot.
func fits(w uint64, x api.Task) bool {
	if _, errno := packed.Unpack(w); errno != api.OK {
		return false
	}
	if packed.Kind(w) == api.Free {
		return x == api.Task{}
	}
	return isNice(x.Nice) && x.Mask != 0 && x.Lag >= -api.MaxLag && x.Lag <= api.MaxLag
}

// vacant tells the first slot that may be taken, or -1: it is Free, and has a Gen left, as without one a handle would be told twice.
func vacant(words []uint64) int {
	return slices.IndexFunc(words, func(w uint64) bool {
		return packed.Kind(w) == api.Free && packed.Gen(w) < api.MaxGen
	})
}
