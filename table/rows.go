package table

import (
	"turnspit/api"
	"turnspit/life"
)

// rows is a table at work: of each slot a word and a task, in rows that are the maker's own, so that what is handed in stays as it is.
type rows[W, T any] struct {
	words []W
	tasks []T
}

// fault is why a change can't be made, on its way.
type fault api.Errno

// copied tells rows that hold what those handed in do, and share nothing with them.
func copied[W, T any](words []W, tasks []T) rows[W, T] {
	r := rows[W, T]{make([]W, len(words)), make([]T, len(tasks))}
	copy(r.words, words)
	copy(r.tasks, tasks)
	return r
}

// at tells where slot's word and its task stand; a fault, if there is no such slot.
func (r rows[W, T]) at(slot int) (*W, *T) {
	need(slot >= 0 && slot < len(r.words), api.ErrArg)
	return &r.words[slot], &r.tasks[slot]
}

// need is a fault of that error, unless it is so.
func need(so bool, errno api.Errno) {
	if !so {
		panic(fault(errno))
	}
}

// change tells what comes of t, once do has changed rows like its; ErrOrder, if t is not right, or the error of do's fault.
func change(t api.Table, do func(r rows[uint64, api.Task])) (made api.Table, errno api.Errno) {
	defer func() {
		if x := recover(); x != nil {
			errno = api.Errno(x.(fault)) // what is none is not hidden
		}
	}()
	need(Right(t), api.ErrOrder)
	r := copied(t.Words, t.Tasks)
	do(r)
	return api.Table{Words: r.words, Tasks: r.tasks}, api.OK
}

// pass has slot's word go through the event; a fault, if there is no such slot, or the event has an error.
func pass(r rows[uint64, api.Task], slot, event, cpu int) {
	word, _ := r.at(slot)
	next, errno := life.Next(*word, event, cpu)
	need(errno == api.OK, errno)
	*word = next
}
