package queue

import (
	"turnspit/api"
	"turnspit/turn"
)

// reason tells an error with which a call can't be done, and whether it holds.
type reason func() (api.Errno, bool)

// why tells the error of the first one of reasons that holds; OK, if none does. Those behind it are not asked, so that each may lean on it that none ahead of it holds.
func why(reasons ...reason) api.Errno {
	for _, r := range reasons {
		if errno, holds := r(); holds {
			return errno
		}
	}
	return api.OK
}

// notRight holds, if q is not right.
func notRight(q api.Queue) reason {
	return func() (api.Errno, bool) { return api.ErrOrder, !Right(q) }
}

// noTask holds, if id is no task's number.
func noTask(q api.Queue, id int) reason {
	return func() (api.Errno, bool) { return api.ErrArg, !isTask(q, id) }
}

// noWeight holds, if no task may weigh w.
func noWeight(w int) reason {
	return func() (api.Errno, bool) { return api.ErrArg, !isWeight(w) }
}

// noTick holds, if no tick may be of d.
func noTick(d int) reason {
	return func() (api.Errno, bool) { return api.ErrArg, turn.Clamp(d, 0, api.MaxTick) != d }
}

// busy holds, if the task id is here.
func busy(q api.Queue, id int) reason {
	return func() (api.Errno, bool) { return api.ErrBusy, isHere(q, id) }
}

// away holds, if the task id is not here.
func away(q api.Queue, id int) reason {
	return func() (api.Errno, bool) { return api.ErrIdle, !isHere(q, id) }
}

// stands holds, if nobody runs.
func stands(q api.Queue) reason {
	return func() (api.Errno, bool) { return api.ErrIdle, q.Cur == none }
}

// empty holds, if nobody is here.
func empty(q api.Queue) reason {
	return func() (api.Errno, bool) { return api.ErrIdle, len(all(q)) == 0 }
}
