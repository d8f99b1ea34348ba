package links

import (
	"slices"

	"turnspit/api"
)

// The chapter's words, told once more and in another way than the package tells them: a list is a slice here, found from its end on, and who pushes is no goroutine.

// drawn tells the links of n tasks whose list is l.
func drawn(n int, l ...int) api.Links {
	x := api.Links{Head: -1, Next: slices.Repeat([]int{-2}, n)}
	for _, id := range slices.Backward(l) {
		x.Head, x.Next[id] = id, x.Head
	}
	return x
}

// wantList tells the list, and whether l are right: from the end of the list on each task has just one ahead of it, till all are come by that are not Out; Head is the last of them.
func wantList(l api.Links) ([]int, bool) {
	if len(l.Next) > 64 {
		return nil, false
	}
	in := 0
	for _, next := range l.Next {
		if next != -2 {
			in++
		}
	}
	var tasks []int
	at := -1
	for range in {
		before := ahead(l, at)
		if len(before) != 1 {
			return nil, false
		}
		at = before[0]
		tasks = append(tasks, at)
	}
	return reversed(tasks), l.Head == at
}

// ahead tells the tasks whose Next is id.
func ahead(l api.Links, id int) []int {
	var tasks []int
	for i, next := range l.Next {
		if next == id {
			tasks = append(tasks, i)
		}
	}
	return tasks
}

// reversed tells l the other way round.
func reversed(l []int) []int {
	l = slices.Clone(l)
	slices.Reverse(l)
	return l
}

// wantPut tells what K2 asks of Put.
func wantPut(l api.Links, id int) (api.Links, bool, api.Errno) {
	tasks, ok := wantList(l)
	if !ok || id < 0 || id > len(l.Next)-1 {
		return api.Links{}, false, api.ErrArg
	}
	if slices.Contains(tasks, id) {
		return api.Links{}, false, api.ErrBusy
	}
	return drawn(len(l.Next), slices.Insert(tasks, 0, id)...), len(tasks) == 0, api.OK
}

// wantTake tells what K2 asks of Take.
func wantTake(l api.Links) (api.Links, []int, api.Errno) {
	tasks, ok := wantList(l)
	if !ok {
		return api.Links{}, nil, api.ErrArg
	}
	return drawn(len(l.Next)), tasks, api.OK
}

// wantStep tells what K3 asks of Step.
func wantStep(l api.Links, p api.Push) (api.Links, api.Push, api.Errno) {
	put, _, errno := wantPut(l, p.Id)
	switch {
	case errno == api.ErrArg, p.Phase < 0, p.Phase > 1:
		return api.Links{}, api.Push{}, api.ErrArg
	case errno != api.OK:
		return api.Links{}, api.Push{}, errno
	case p.Phase == 0:
		return l, api.Push{Id: p.Id, Phase: 1, Read: l.Head}, api.OK
	case p.Read != l.Head:
		return l, api.Push{Id: p.Id, Phase: 0, Read: p.Read}, api.OK
	}
	return put, api.Push{Id: p.Id, Phase: 2, Read: p.Read}, api.OK
}

// outcome is what Play tells.
type outcome struct {
	links api.Links
	taken [][]int
	found int
	errno api.Errno
}

// played tells what Play tells.
func played(n int, jobs [][]int, picks []int) outcome {
	l, taken, found, errno := Play(n, jobs, picks)
	return outcome{l, taken, found, errno}
}

// equal tells whether two outcomes are the same.
func (o outcome) equal(x outcome) bool {
	return sameLinks(o.links, x.links) && slices.EqualFunc(o.taken, x.taken, slices.Equal[[]int]) && o.found == x.found && o.errno == x.errno
}

// sameLinks tells whether two links are the same.
func sameLinks(a, b api.Links) bool { return a.Head == b.Head && slices.Equal(a.Next, b.Next) }

// wantErrno tells which error K4 asks for.
func wantErrno(n int, jobs [][]int, picks []int) api.Errno {
	all := slices.Concat(jobs...)
	slices.Sort(all)
	switch {
	case n < 0, n > 64:
		return api.ErrArg
	case len(jobs) > 64, len(picks) > 20000:
		return api.ErrLong
	case len(all) > 0 && (all[0] < 0 || all[len(all)-1] >= n), len(slices.Compact(slices.Clone(all))) < len(all):
		return api.ErrArg
	}
	return api.OK
}

// wantPlay tells what K4 asks of Play.
func wantPlay(n int, jobs [][]int, picks []int) outcome {
	if errno := wantErrno(n, jobs, picks); errno != api.OK {
		return outcome{errno: errno}
	}
	var list []int
	var o outcome
	done := make([]int, len(jobs))
	reads := make([]*int, len(jobs))
	for _, pick := range picks {
		head := slices.Concat(list, []int{-1})[0]
		switch {
		case pick == len(jobs):
			o.taken, list = append(o.taken, list), nil
		case pick < 0, pick > len(jobs), done[pick] == len(jobs[pick]):
		case reads[pick] == nil:
			reads[pick] = &head
		case *reads[pick] != head:
			reads[pick] = nil
		default:
			if len(list) == 0 {
				o.found++
			}
			list = slices.Concat([]int{jobs[pick][done[pick]]}, list)
			done[pick]++
			reads[pick] = nil
		}
	}
	o.links = drawn(n, list...)
	return o
}
