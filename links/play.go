package links

import (
	"sync"

	"turnspit/api"
)

const maxPushers = 64

// pusher is what a pusher's goroutine and the one that plays share. A pick is the links as they are: with it goes the right to change them, and comes back with what was made of them, so that only one at a time has them.
type pusher struct {
	picks chan api.Links
	made  chan made
	spent chan struct{}
}

// made is what came of a step: the links, and whether a push is done that found nobody in the list.
type made struct {
	links api.Links
	first bool
}

// Play tells the links behind all picks, what was taken with each pick of the taker, and how often a push, that was done, found nobody in the list; New's error, ErrLong, if there are too many pushers or picks, ErrArg, if a task of a job is none of n, or stands twice in all of them.
func Play(n int, jobs [][]int, picks []int) (api.Links, [][]int, int, api.Errno) {
	l, errno := New(n)
	if errno == api.OK {
		errno = mayPlay(n, jobs, picks)
	}
	if errno != api.OK {
		return api.Links{}, nil, 0, errno
	}
	var all sync.WaitGroup
	pushers := begin(jobs, &all)
	var taken [][]int
	found := 0
	for _, pick := range picks {
		if pick == len(pushers) {
			left, list, _ := Take(l)
			l, taken = left, append(taken, list)
		} else if pick >= 0 && pick < len(pushers) {
			done := pushers[pick].pick(l)
			l = done.links
			if done.first {
				found++
			}
		}
	}
	end(pushers, &all)
	return l, taken, found, api.OK
}

// mayPlay tells what forbids that jobs of n tasks are played by picks.
func mayPlay(n int, jobs [][]int, picks []int) api.Errno {
	if len(jobs) > maxPushers || len(picks) > api.MaxPicks {
		return api.ErrLong
	}
	had := make([]bool, n)
	for _, job := range jobs {
		for _, id := range job {
			if id < 0 || id >= n || had[id] {
				return api.ErrArg
			}
			had[id] = true
		}
	}
	return api.OK
}

// begin tells a pusher of each job, that waits for its picks.
func begin(jobs [][]int, all *sync.WaitGroup) []pusher {
	pushers := make([]pusher, len(jobs))
	for i, job := range jobs {
		p := pusher{picks: make(chan api.Links), made: make(chan made), spent: make(chan struct{})}
		pushers[i] = p
		all.Add(1)
		go func() {
			defer all.Done()
			p.work(job)
		}()
	}
	return pushers
}

// end tells all pushers that no more picks come, and waits till each one has ended.
func end(pushers []pusher, all *sync.WaitGroup) {
	for _, p := range pushers {
		close(p.picks)
	}
	all.Wait()
}

// pick hands l to the pusher, and tells what it made of it; l as it is, if it has nothing left. Never are both ready: who is spent receives no more, who is not receives the next pick.
func (p pusher) pick(l api.Links) made {
	select {
	case p.picks <- l:
		return <-p.made
	case <-p.spent:
		return made{links: l}
	}
}

// work pushes a job's tasks, each when the one ahead of it is done.
func (p pusher) work(job []int) {
	for _, id := range job {
		p.push(id)
	}
	close(p.spent)
}

// push pushes id, a step with each pick, till that is done or no more picks come.
func (p pusher) push(id int) {
	at := api.Push{Id: id}
	for l := range p.picks {
		first := l.Head == nobody
		l, at, _ = Step(l, at)
		done := at.Phase == linked
		p.made <- made{links: l, first: done && first}
		if done {
			return
		}
	}
}
