package locks

import (
	"slices"

	"turnspit/api"
)

// The chapter's words, told once more and in another way than the package tells them: who is stuck is asked of each set, or of each one's way from who it waits for to whom that one waits for; a job is a row of acts, and who has a lock is told by how far each job is.

// wantTake tells what L1 asks of Take.
func wantTake(l api.Locks, lock, who int) (api.Locks, api.Errno) {
	for i, by := range l.By {
		switch {
		case i != lock || who < 0:
		case by < 0:
			return api.Locks{By: slices.Concat(l.By[:i], []int{who}, l.By[i+1:])}, api.OK
		case by == who:
			return api.Locks{}, api.ErrOrder
		default:
			return api.Locks{}, api.ErrHeld
		}
	}
	return api.Locks{}, api.ErrArg
}

// wantGive tells what L1 asks of Give.
func wantGive(l api.Locks, lock, who int) (api.Locks, api.Errno) {
	for i, by := range l.By {
		switch {
		case i != lock || who < 0:
		case by == who:
			return api.Locks{By: slices.Concat(l.By[:i], []int{-1}, l.By[i+1:])}, api.OK
		default:
			return api.Locks{}, api.ErrOrder
		}
	}
	return api.Locks{}, api.ErrArg
}

// sameLocks tells whether two locks are the same.
func sameLocks(a, b api.Locks) bool { return slices.Equal(a.By, b.By) }

// wantFault tells which error L3 asks for.
func wantFault(l []api.Waiter) api.Errno {
	if len(l) > 64 {
		return api.ErrLong
	}
	var all []int
	for _, w := range l {
		if slices.Contains(w.Holds, w.Wants) {
			return api.ErrArg
		}
		all = append(all, w.Holds...)
	}
	slices.Sort(all)
	if len(all) > 0 && all[0] < 0 || len(slices.Compact(slices.Clone(all))) < len(all) {
		return api.ErrArg
	}
	return api.OK
}

// wantStuck tells what L3 asks of Stuck: who comes by no end, on its way to whom it waits for, to whom that one waits for, and so on.
func wantStuck(l []api.Waiter) ([]int, api.Errno) {
	if errno := wantFault(l); errno != api.OK {
		return nil, errno
	}
	var stuck []int
	for i := range l {
		at := i
		for range len(l) + 1 {
			if at >= 0 {
				at = slices.IndexFunc(l, func(w api.Waiter) bool { return slices.Contains(w.Holds, l[at].Wants) })
			}
		}
		if at >= 0 {
			stuck = append(stuck, i)
		}
	}
	return stuck, api.OK
}

// greatest tells who is stuck by the chapter's own words: of all sets of waiters, each of whom wants a lock that one of the same set has, the greatest one; and whether all others of these are parts of it.
func greatest(l []api.Waiter) ([]int, bool) {
	best, all := 0, 0
	for set := range 1 << len(l) {
		if within(l, set) {
			all |= set
			if count(set) > count(best) {
				best = set
			}
		}
	}
	var stuck []int
	for i := range l {
		if best>>i&1 == 1 {
			stuck = append(stuck, i)
		}
	}
	return stuck, best == all
}

// within tells whether each of the set, of l, wants a lock that one of the set has.
func within(l []api.Waiter, set int) bool {
	for i, w := range l {
		found := set>>i&1 == 0
		for k, other := range l {
			found = found || set>>k&1 == 1 && slices.Contains(other.Holds, w.Wants)
		}
		if !found {
			return false
		}
	}
	return true
}

// count tells how many are in a set.
func count(set int) int {
	n := 0
	for ; set > 0; set >>= 1 {
		n += set & 1
	}
	return n
}

// outcome is what Play tells.
type outcome struct {
	locks api.Locks
	jobs  []api.Waiter
	done  []int
	errno api.Errno
}

// played tells what Play tells.
func played(n int, jobs [][][2]int, ordered bool, picks []int) outcome {
	l, waiters, done, errno := Play(n, jobs, ordered, picks)
	return outcome{l, waiters, done, errno}
}

// equal tells whether two outcomes are the same.
func (o outcome) equal(x outcome) bool {
	return sameLocks(o.locks, x.locks) && slices.EqualFunc(o.jobs, x.jobs, sameWaiter) && slices.Equal(o.done, x.done) && o.errno == x.errno
}

// sameWaiter tells whether two waiters are the same.
func sameWaiter(a, b api.Waiter) bool { return a.Wants == b.Wants && slices.Equal(a.Holds, b.Holds) }

// wantErrno tells which error L4 asks for.
func wantErrno(n int, jobs [][][2]int, picks []int) api.Errno {
	switch {
	case n < 0, n > 65:
		return api.ErrArg
	case len(jobs) > 64, len(picks) > 20000:
		return api.ErrLong
	}
	for _, section := range slices.Concat(jobs...) {
		if min(section[0], section[1]) < 0 || max(section[0], section[1]) > n-1 {
			return api.ErrArg
		}
	}
	return api.OK
}

// back is the act of giving back.
const back = -1

// acts tells a job as a row of what it does: locks that it takes, and back.
func acts(sections [][2]int, ordered bool) []int {
	var l []int
	for _, s := range sections {
		switch {
		case s[0] == s[1]:
			l = append(l, s[0])
		case ordered && s[1] < s[0]:
			l = append(l, s[1], s[0])
		default:
			l = append(l, s[0], s[1])
		}
		l = append(l, back)
	}
	return l
}

// had tells what a job has that has done these acts.
func had(done []int) []int {
	for i := len(done); i > 0; i-- {
		if done[i-1] == back {
			return done[i:]
		}
	}
	return done
}

// wantPlay tells what L4 asks of Play.
func wantPlay(n int, jobs [][][2]int, ordered bool, picks []int) outcome {
	if errno := wantErrno(n, jobs, picks); errno != api.OK {
		return outcome{errno: errno}
	}
	all := make([][]int, len(jobs))
	at := make([]int, len(jobs))
	for i, sections := range jobs {
		all[i] = acts(sections, ordered)
	}
	var o outcome
	for _, pick := range picks {
		if pick < 0 || pick > len(jobs)-1 || at[pick] == len(all[pick]) {
			continue
		}
		act := all[pick][at[pick]]
		if act == back {
			o.done = append(o.done, pick)
		}
		if act == back || free(all, at, act) {
			at[pick]++
		}
	}
	o.locks.By = slices.Repeat([]int{-1}, n)
	for i, row := range all {
		w := api.Waiter{Holds: had(row[:at[i]]), Wants: slices.Concat(row[at[i]:], []int{-1})[0]}
		for _, lock := range w.Holds {
			o.locks.By[lock] = i
		}
		o.jobs = append(o.jobs, w)
	}
	return o
}

// free tells whether no job, each of them at that act, has the lock.
func free(all [][]int, at []int, lock int) bool {
	for i, row := range all {
		if slices.Contains(had(row[:at[i]]), lock) {
			return false
		}
	}
	return true
}
