package locks

import "turnspit/api"

// job is one that is under way: what is left of its sections, and what it has, in the order in which it took it.
type job struct {
	left  [][2]int
	holds []int
}

// game is what has come of jobs that were picked: the locks, the jobs, and whose sections were done.
type game struct {
	locks   api.Locks
	jobs    []job
	done    []int
	ordered bool
}

// Play tells what comes of jobs, of n locks, that are picked one at a time: the locks, of each job what it has, and what it wants, and whose sections were done; New's error, ErrLong, if there are more than MaxTasks jobs, or MaxPicks picks, ErrArg, if a section is of a lock that there is not. If ordered is true, the lesser lock of a section is its first one.
func Play(n int, jobs [][][2]int, ordered bool, picks []int) (api.Locks, []api.Waiter, []int, api.Errno) {
	l, errno := New(n)
	if errno == api.OK {
		errno = mayPlay(l, jobs, picks)
	}
	if errno != api.OK {
		return api.Locks{}, nil, nil, errno
	}
	g := game{locks: l, jobs: make([]job, len(jobs)), ordered: ordered}
	for i, sections := range jobs {
		g.jobs[i].left = sections
	}
	for _, who := range picks {
		if who >= 0 && who < len(jobs) {
			g.step(who)
		}
	}
	return g.locks, g.waiters(), g.done, api.OK
}

// mayPlay tells what forbids that jobs, of the locks l, are picked so.
func mayPlay(l api.Locks, jobs [][][2]int, picks []int) api.Errno {
	if len(jobs) > api.MaxTasks || len(picks) > api.MaxPicks {
		return api.ErrLong
	}
	for _, sections := range jobs {
		for _, section := range sections {
			if !isLock(l, section[0]) || !isLock(l, section[1]) {
				return api.ErrArg
			}
		}
	}
	return api.OK
}

// step does a step of who: it takes a lock, if nobody has it, or gives back what it has.
func (g *game) step(who int) {
	j := &g.jobs[who]
	lock := j.wants(g.ordered)
	if lock != none {
		goto take
	}
	if len(j.holds) > 0 {
		goto give
	}
	return

take:
	if l, errno := Take(g.locks, lock, who); errno == api.OK {
		g.locks, j.holds = l, append(j.holds, lock)
	}
	return

give:
	for _, held := range j.holds {
		g.locks, _ = Give(g.locks, held, who)
	}
	j.left, j.holds = j.left[1:], nil
	g.done = append(g.done, who)
}

// wants tells which lock j is to take next: none, if it has all that it needs, or no section left.
func (j job) wants(ordered bool) int {
	if len(j.left) == 0 {
		return none
	}
	first, second := j.left[0][0], j.left[0][1]
	if ordered {
		first, second = Pair(first, second)
	}
	switch {
	case len(j.holds) == 0:
		return first
	case len(j.holds) == 1 && first != second:
		return second
	}
	return none
}

// waiters tells of each job what it has, and what it wants.
func (g *game) waiters() []api.Waiter {
	l := make([]api.Waiter, len(g.jobs))
	for i, j := range g.jobs {
		l[i] = api.Waiter{Holds: j.holds, Wants: j.wants(g.ordered)}
	}
	return l
}
