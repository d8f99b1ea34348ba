package locks

import "turnspit/api"

// Stuck tells who is stuck, rising; ErrLong, if there are more than MaxTasks, ErrArg, if a lock stands twice in all their Holds, or is below 0 there, or one wants what it has.
func Stuck(l []api.Waiter) ([]int, api.Errno) {
	if len(l) > api.MaxTasks {
		return nil, api.ErrLong
	}
	waits, ok := waitsFor(l)
	if !ok {
		return nil, api.ErrArg
	}
	for before := len(l) + 1; len(waits) < before; {
		before = len(waits)
		letGo(waits, len(l))
	}
	var stuck []int
	for i := range l {
		if _, ok := waits[i]; ok {
			stuck = append(stuck, i)
		}
	}
	return stuck, api.OK
}

// waitsFor tells of each one, who wants what somebody has, who that is, and true; false, if one wants what it has, or the Holds may not be.
func waitsFor(l []api.Waiter) (map[int]int, bool) {
	by, ok := holders(l)
	if !ok {
		return nil, false
	}
	waits := map[int]int{}
	for i, waiter := range l {
		who, had := by[waiter.Wants]
		if !had {
			continue
		}
		if who == i {
			return nil, false
		}
		waits[i] = who
	}
	return waits, true
}

// holders tells of each lock in the Holds whose it is, and true; false, if one stands there twice, or is below 0.
func holders(l []api.Waiter) (map[int]int, bool) {
	by := map[int]int{}
	for i, waiter := range l {
		for _, lock := range waiter.Holds {
			if _, had := by[lock]; had || lock < 0 {
				return nil, false
			}
			by[lock] = i
		}
	}
	return by, true
}

// letGo deletes out of waits, of n waiters, who waits for one that waits for nobody: that one may give back what it has.
func letGo(waits map[int]int, n int) {
	for i := range n {
		who, ok := waits[i]
		if !ok {
			continue
		}
		if _, ok := waits[who]; !ok {
			delete(waits, i)
		}
	}
}
