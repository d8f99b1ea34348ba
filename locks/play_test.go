package locks

import (
	"math"
	"slices"
	"sync"
	"testing"

	"turnspit/api"
)

// guardedJobs tells jobs, with others behind its length and theirs, and a function that says whether all of these are as they were.
func guardedJobs(jobs [][][2]int) ([][][2]int, func() bool) {
	long := append(slices.Clone(jobs), [][2]int{{0, 1}}, nil)
	for i := range long {
		long[i] = append(slices.Clone(long[i]), [2]int{1, 0}, [2]int{-1, 5})[:len(long[i])]
	}
	whole := func() [][][2]int {
		l := make([][][2]int, len(long))
		for i := range long {
			l[i] = slices.Clone(long[i][:len(long[i])+2])
		}
		return l
	}
	old := whole()
	return long[:len(jobs)], func() bool { return slices.EqualFunc(whole(), old, slices.Equal[[][2]int]) }
}

// checkPlay holds L4, and that what is handed in is not written into, and that no two lists that are told share memory. It tells what Play is to tell.
func checkPlay(t *testing.T, n int, jobs [][][2]int, ordered bool, picks []int) outcome {
	t.Helper()
	in, keptJobs := guardedJobs(jobs)
	order, keptPicks := guarded(picks)
	want := wantPlay(n, jobs, ordered, picks)
	got := played(n, in, ordered, order)
	if !got.equal(want) {
		t.Fatalf("Play(%d, %v, %t, %v): %v; want %v", n, jobs, ordered, picks, got, want)
	}
	lists := [][]int{got.locks.By, got.done}
	for i := range got.jobs {
		lists = append(lists, got.jobs[i].Holds)
	}
	for i := range lists {
		rest := slices.Concat(lists[i+1:]...)
		spoil(lists[i])
		if !slices.Equal(slices.Concat(lists[i+1:]...), rest) {
			t.Fatalf("Play(%d, %v, %t, %v): lists share", n, jobs, ordered, picks)
		}
	}
	if !keptJobs() || !keptPicks() {
		t.Fatalf("Play(%d, %v, %t, %v) wrote into what is handed in", n, jobs, ordered, picks)
	}
	return want
}

// everyRow hands each row of numbers from low to high, of at most length, to hold.
func everyRow(low, high, length int, l []int, hold func(l []int)) {
	hold(l)
	if len(l) == length {
		return
	}
	for x := low; x <= high; x++ {
		everyRow(low, high, length, append(l[:len(l):len(l)], x), hold)
	}
}

func TestPlay(t *testing.T) {
	cross := [][][2]int{{{0, 1}}, {{1, 0}}}
	same := [][][2]int{{{1, 1}, {0, 1}}, {{1, 0}}}
	three := [][][2]int{{{0, 1}}, {{1, 2}}, {{2, 0}}}
	for name, x := range map[string]struct {
		n       int
		jobs    [][][2]int
		ordered bool
		picks   []int
		by      []int
		waiters []api.Waiter
		done    []int
	}{
		"the example, ordered":                {2, cross, true, []int{0, 1, 0, 1}, []int{0, 0}, []api.Waiter{holding(-1, 0, 1), holding(0)}, nil},
		"the example, not ordered":            {2, cross, false, []int{0, 1, 0, 1}, []int{0, 1}, []api.Waiter{holding(1, 0), holding(0, 1)}, nil},
		"no locks":                            {0, nil, true, []int{0, 1}, nil, nil, nil},
		"no jobs, nil":                        {3, nil, false, []int{0, 0, -1}, []int{-1, -1, -1}, nil, nil},
		"no jobs, of length 0":                {1, [][][2]int{}, true, nil, []int{-1}, nil, nil},
		"no sections":                         {1, make([][][2]int, 2), true, []int{0, 1, 0}, []int{-1}, []api.Waiter{holding(-1), holding(-1)}, nil},
		"no sections, no locks":               {0, [][][2]int{{}, nil}, false, []int{0, 1, 0}, nil, []api.Waiter{holding(-1), holding(-1)}, nil},
		"no picks, ordered":                   {2, cross, true, nil, []int{-1, -1}, []api.Waiter{holding(0), holding(0)}, nil},
		"no picks, not ordered":               {2, cross, false, nil, []int{-1, -1}, []api.Waiter{holding(0), holding(1)}, nil},
		"one pick, ordered":                   {2, cross, true, []int{1}, []int{1, -1}, []api.Waiter{holding(0), holding(1, 0)}, nil},
		"one pick, not ordered":               {2, cross, false, []int{1}, []int{-1, 1}, []api.Waiter{holding(0), holding(0, 1)}, nil},
		"two picks, ordered":                  {2, cross, true, []int{1, 1}, []int{1, 1}, []api.Waiter{holding(0), holding(-1, 0, 1)}, nil},
		"two picks, not ordered":              {2, cross, false, []int{1, 1}, []int{1, 1}, []api.Waiter{holding(0), holding(-1, 1, 0)}, nil},
		"three picks":                         {2, cross, false, []int{1, 1, 1}, []int{-1, -1}, []api.Waiter{holding(0), holding(-1)}, []int{1}},
		"of who has no section left":          {2, cross, false, []int{1, 1, 1, 1, 1, 1, 1}, []int{-1, -1}, []api.Waiter{holding(0), holding(-1)}, []int{1}},
		"all, one behind the other":           {2, cross, false, []int{1, 1, 1, 0, 0, 0}, []int{-1, -1}, []api.Waiter{holding(-1), holding(-1)}, []int{1, 0}},
		"of nobody":                           {2, cross, false, []int{-1, 2, math.MinInt, 3, math.MaxInt, 64}, []int{-1, -1}, []api.Waiter{holding(0), holding(1)}, nil},
		"of nobody, between":                  {2, cross, false, []int{-1, 0, 2, 0, math.MaxInt, -2, 0}, []int{-1, -1}, []api.Waiter{holding(-1), holding(1)}, []int{0}},
		"of who waits, once":                  {2, cross, true, []int{0, 1}, []int{0, -1}, []api.Waiter{holding(1, 0), holding(0)}, nil},
		"of who waits, again":                 {2, cross, true, []int{0, 1, 1, 1, 1}, []int{0, -1}, []api.Waiter{holding(1, 0), holding(0)}, nil},
		"who waited takes it":                 {2, cross, true, []int{0, 1, 0, 1, 0, 1}, []int{1, -1}, []api.Waiter{holding(-1), holding(1, 0)}, []int{0}},
		"who waited is not in a row":          {2, append(cross, cross[0]), true, []int{0, 1, 0, 0, 2}, []int{2, -1}, []api.Waiter{holding(-1), holding(0), holding(1, 0)}, []int{0}},
		"stuck for ever":                      {2, cross, false, []int{0, 1, 0, 1, 0, 0, 1, 1, 0, 1}, []int{0, 1}, []api.Waiter{holding(1, 0), holding(0, 1)}, nil},
		"the second one waits":                {2, same, true, []int{0, 1, 1}, []int{1, 0}, []api.Waiter{holding(-1, 1), holding(1, 0)}, nil},
		"of one lock, taken":                  {2, same, true, []int{0}, []int{-1, 0}, []api.Waiter{holding(-1, 1), holding(0)}, nil},
		"of one lock, not ordered":            {2, same, false, []int{0}, []int{-1, 0}, []api.Waiter{holding(-1, 1), holding(1)}, nil},
		"of one lock, given back":             {2, same, true, []int{0, 0}, []int{-1, -1}, []api.Waiter{holding(0), holding(0)}, []int{0}},
		"of one lock, and the next":           {2, same, true, []int{0, 0, 0, 0, 0}, []int{-1, -1}, []api.Waiter{holding(-1), holding(0)}, []int{0, 0}},
		"of one lock, that is another's":      {2, same, false, []int{1, 0, 0}, []int{-1, 1}, []api.Waiter{holding(1), holding(0, 1)}, nil},
		"at its next section, wants another":  {3, [][][2]int{{{0, 0}, {2, 1}}}, false, []int{0, 0}, []int{-1, -1, -1}, []api.Waiter{holding(2)}, []int{0}},
		"at its next section, ordered":        {3, [][][2]int{{{0, 0}, {2, 1}}}, true, []int{0, 0}, []int{-1, -1, -1}, []api.Waiter{holding(1)}, []int{0}},
		"has them in the order of taking":     {3, [][][2]int{{{2, 0}}}, false, []int{0, 0}, []int{0, -1, 0}, []api.Waiter{holding(-1, 2, 0)}, nil},
		"has them in the order, ordered":      {3, [][][2]int{{{2, 0}}}, true, []int{0, 0}, []int{0, -1, 0}, []api.Waiter{holding(-1, 0, 2)}, nil},
		"three in a ring":                     {3, three, false, []int{0, 1, 2, 0, 1, 2}, []int{0, 1, 2}, []api.Waiter{holding(1, 0), holding(2, 1), holding(0, 2)}, nil},
		"three, ordered":                      {3, three, true, []int{0, 1, 2, 0, 1, 2}, []int{0, 1, 1}, []api.Waiter{holding(1, 0), holding(-1, 1, 2), holding(0)}, nil},
		"side by side":                        {4, [][][2]int{{{0, 1}}, {{3, 2}}}, false, []int{0, 1, 0, 1, 1, 0}, []int{-1, -1, -1, -1}, []api.Waiter{holding(-1), holding(-1)}, []int{1, 0}},
		"65 locks":                            {65, [][][2]int{{{64, 0}}}, true, []int{0, 0}, append(append([]int{0}, slices.Repeat([]int{-1}, 63)...), 0), []api.Waiter{holding(-1, 0, 64)}, nil},
		"one section done, another under way": {2, [][][2]int{{{0, 1}, {1, 0}}}, false, []int{0, 0, 0, 0}, []int{-1, 0}, []api.Waiter{holding(0, 1)}, []int{0}},
	} {
		want := outcome{api.Locks{By: x.by}, x.waiters, x.done, api.OK}
		for range 2 {
			if got := played(x.n, x.jobs, x.ordered, x.picks); !got.equal(want) {
				t.Errorf("%s: Play(%d, %v, %t, %v): %v; want %v", name, x.n, x.jobs, x.ordered, x.picks, got, want)
			}
		}
		checkPlay(t, x.n, x.jobs, x.ordered, x.picks)
	}
}

// TestExample holds the chapter's example.
func TestExample(t *testing.T) {
	jobs := [][][2]int{{{0, 1}}, {{1, 0}}}
	picks := []int{0, 1, 0, 1}
	_, waiters, _, _ := Play(2, jobs, true, picks)
	if stuck, errno := Stuck(waiters); !slices.Equal(waiters[0].Holds, []int{0, 1}) || len(stuck) != 0 || errno != api.OK {
		t.Fatal(waiters, stuck, errno)
	}
	_, waiters, _, _ = Play(2, jobs, false, picks)
	if stuck, errno := Stuck(waiters); !slices.Equal(stuck, []int{0, 1}) || errno != api.OK {
		t.Fatal(waiters, stuck, errno)
	}
}

// TestPlayFaults holds which error is told, where one or several apply.
func TestPlayFaults(t *testing.T) {
	one := func(a, b int) [][][2]int { return [][][2]int{{{0, 1}}, {{1, 1}, {a, b}}} }
	many := make([][][2]int, 65)
	wrong := append(make([][][2]int, 64), [][2]int{{-1, 2}})
	long := make([]int, 20001)
	for name, x := range map[string]struct {
		n     int
		jobs  [][][2]int
		picks []int
		want  api.Errno
	}{
		"n -1":                              {-1, nil, nil, api.ErrArg},
		"n 66":                              {66, nil, nil, api.ErrArg},
		"the least n":                       {math.MinInt, nil, nil, api.ErrArg},
		"the greatest n":                    {math.MaxInt, nil, nil, api.ErrArg},
		"n 0":                               {0, nil, nil, api.OK},
		"n 65":                              {65, one(64, 0), nil, api.OK},
		"n -1, 65 jobs":                     {-1, many, nil, api.ErrArg},
		"n 66, 20001 picks":                 {66, nil, long, api.ErrArg},
		"n 66, 65 jobs, picks, a section":   {66, wrong, long, api.ErrArg},
		"n -1, a section":                   {-1, one(-1, 0), nil, api.ErrArg},
		"64 jobs":                           {2, many[:64], nil, api.OK},
		"65 jobs":                           {2, many, nil, api.ErrLong},
		"1000 jobs":                         {2, make([][][2]int, 1000), nil, api.ErrLong},
		"65 jobs, a section":                {2, wrong, nil, api.ErrLong},
		"20000 picks":                       {2, one(1, 0), long[:20000], api.OK},
		"20001 picks":                       {2, one(1, 0), long, api.ErrLong},
		"20001 picks, no jobs":              {2, nil, long, api.ErrLong},
		"20001 picks, no locks":             {0, nil, long, api.ErrLong},
		"20001 picks of nobody":             {2, one(1, 0), slices.Repeat([]int{-1}, 20001), api.ErrLong},
		"20001 picks, a section":            {2, one(2, 0), long, api.ErrLong},
		"65 jobs, 20001 picks":              {2, many, long, api.ErrLong},
		"the first lock -1":                 {2, one(-1, 0), nil, api.ErrArg},
		"the second lock -1":                {2, one(0, -1), nil, api.ErrArg},
		"both -1":                           {2, one(-1, -1), nil, api.ErrArg},
		"the first lock n":                  {2, one(2, 0), nil, api.ErrArg},
		"the second lock n":                 {2, one(0, 2), nil, api.ErrArg},
		"both n":                            {2, one(2, 2), nil, api.ErrArg},
		"the least lock":                    {2, one(0, math.MinInt), nil, api.ErrArg},
		"the greatest lock":                 {2, one(math.MaxInt, 0), nil, api.ErrArg},
		"lock 65 of 65":                     {65, one(65, 0), nil, api.ErrArg},
		"a section, of no locks":            {0, one(0, 0), nil, api.ErrArg},
		"a section that nobody is at":       {2, one(2, 0), []int{0, 0}, api.ErrArg},
		"a section, 64 jobs, 20000 picks":   {1, append(make([][][2]int, 63), one(1, 0)[1]), long[:20000], api.ErrArg},
		"the last section of the last job":  {2, [][][2]int{nil, {{0, 0}, {0, 1}, {1, 7}}}, nil, api.ErrArg},
		"the first section of the first":    {2, [][][2]int{{{7, 1}, {0, 1}}, nil}, nil, api.ErrArg},
		"sections of all locks, n less one": {2, [][][2]int{{{0, 1}, {1, 2}}}, nil, api.ErrArg},
	} {
		for _, ordered := range []bool{false, true} {
			l, waiters, done, errno := Play(x.n, x.jobs, ordered, x.picks)
			if errno != x.want {
				t.Errorf("%s: Play: %d", name, errno)
			}
			if errno != api.OK && (len(l.By) != 0 || len(waiters) != 0 || len(done) != 0) {
				t.Errorf("%s: beside an error Play tells %v, %v, %v", name, l, waiters, done)
			}
			checkPlay(t, x.n, x.jobs, ordered, x.picks)
		}
	}
}

// TestGreatestPlays holds L4 where there is as much as there may be.
func TestGreatestPlays(t *testing.T) {
	next := draw(4)
	for _, ordered := range []bool{false, true} {
		jobs := make([][][2]int, 64)
		for i := range jobs {
			for range 200 {
				jobs[i] = append(jobs[i], [2]int{int(next() % 65), int(next() % 65)})
			}
		}
		picks := make([]int, 20000)
		for i := range picks {
			picks[i] = int(next() % 64)
		}
		checkPlay(t, 65, jobs, ordered, picks)
		// One that is alone is done with three picks a section.
		alone := make([][2]int, 6666)
		for i := range alone {
			alone[i] = [2]int{i % 65, (i + 1) % 65}
		}
		got := checkPlay(t, 65, [][][2]int{alone}, ordered, make([]int, 20000))
		if len(got.done) != 6666 || got.jobs[0].Wants != -1 {
			t.Fatalf("%d done; %v", len(got.done), got.jobs)
		}
	}
	// More sections than picks, and more than there may be of those.
	checkPlay(t, 2, [][][2]int{make([][2]int, 1<<16)}, true, []int{0, 0, 0})
}

// TestAllShortPlays holds L4 and L5 of all rows of short picks.
func TestAllShortPlays(t *testing.T) {
	for _, x := range []struct {
		n, length int
		jobs      [][][2]int
	}{
		{2, 9, [][][2]int{{{0, 1}, {1, 1}}, {{1, 0}}}},
		{2, 9, [][][2]int{{{1, 0}}, {{1, 0}, {0, 1}}}},
		{3, 6, [][][2]int{{{0, 1}}, {{1, 2}}, {{2, 0}}}},
		{3, 6, [][][2]int{{{2, 1}, {0, 0}}, {}, {{0, 2}, {1, 2}}}},
		{1, 7, [][][2]int{{{0, 0}}, {{0, 0}, {0, 0}}}},
	} {
		everyRow(0, len(x.jobs)-1, x.length, nil, func(picks []int) {
			for _, ordered := range []bool{false, true} {
				checkPlay(t, x.n, x.jobs, ordered, picks)
				checkTheorem(t, x.n, x.jobs, ordered, picks)
			}
		})
	}
	everyRow(-1, 2, 6, nil, func(picks []int) { checkPlay(t, 2, [][][2]int{{{0, 1}}, {{1, 0}}}, false, picks) })
}

// TestAllSmallJobs holds L4 of all two sections of few locks, right and wrong ones.
func TestAllSmallJobs(t *testing.T) {
	picks := []int{0, 1, 0, 1, 0, 1, 0, 1, 1, 0}
	everyRow(-1, 3, 4, nil, func(l []int) {
		if len(l) < 4 {
			return
		}
		for _, jobs := range [][][][2]int{{{{l[0], l[1]}}, {{l[2], l[3]}}}, {{{l[0], l[1]}, {l[2], l[3]}}, {{1, 0}}}} {
			for k := range picks {
				checkPlay(t, 3, jobs, false, picks[:k])
				checkPlay(t, 3, jobs, true, picks[:k])
			}
		}
	})
}

// TestByCalls holds that Play does what its words say by the calls of this layer: each pick a Take, or Gives.
func TestByCalls(t *testing.T) {
	next := draw(5)
	for range 300 {
		n, jobs, picks := drawnGame(next, 300)
		ordered := next()%2 == 0
		l, _ := New(n)
		holds := make([][]int, len(jobs))
		rest := slices.Clone(jobs)
		for _, pick := range picks {
			if pick < 0 || pick >= len(jobs) || len(rest[pick]) == 0 {
				continue
			}
			need := rest[pick][0][:]
			if a, b := Pair(need[0], need[1]); ordered {
				need = []int{a, b}
			}
			need = slices.Compact(need[:len(need):len(need)])
			if k := len(holds[pick]); k < len(need) {
				if took, errno := Take(l, need[k], pick); errno == api.OK {
					l, holds[pick] = took, append(holds[pick], need[k])
				} else if errno != api.ErrHeld {
					t.Fatalf("Play(%d, %v, %t, %v), by calls: %d", n, jobs, ordered, picks, errno)
				}
				continue
			}
			for _, lock := range holds[pick] {
				var errno api.Errno
				if l, errno = Give(l, lock, pick); errno != api.OK {
					t.Fatalf("Play(%d, %v, %t, %v), by calls: %d", n, jobs, ordered, picks, errno)
				}
			}
			holds[pick], rest[pick] = nil, rest[pick][1:]
		}
		got := played(n, jobs, ordered, picks)
		for i, w := range got.jobs {
			if !slices.Equal(w.Holds, holds[i]) {
				t.Fatalf("Play(%d, %v, %t, %v): %v; by calls %v", n, jobs, ordered, picks, got, holds)
			}
		}
		if !sameLocks(got.locks, l) {
			t.Fatalf("Play(%d, %v, %t, %v): %v; by calls %v", n, jobs, ordered, picks, got, l)
		}
	}
}

// TestSameEachTime holds that the same jobs and picks tell the same, whoever else plays.
func TestSameEachTime(t *testing.T) {
	next := draw(6)
	for range 8 {
		n, jobs, picks := drawnGame(next, 2000)
		want := wantPlay(n, jobs, false, picks)
		stuck, _ := wantStuck(want.jobs)
		var all sync.WaitGroup
		faults := make([]int, 16)
		for i := range faults {
			all.Add(1)
			go func() {
				defer all.Done()
				for range 5 {
					got := played(n, jobs, false, picks)
					who, _ := Stuck(got.jobs)
					if !got.equal(want) || !slices.Equal(who, stuck) {
						faults[i]++
					}
				}
			}()
		}
		all.Wait()
		if slices.Max(faults) > 0 {
			t.Fatalf("Play(%d, %v, false, %v) tells otherwise: %v", n, jobs, picks, faults)
		}
	}
}

// drawnGame tells a drawn number of locks, jobs of some of these, and at most so many picks, some of which are nobody's.
func drawnGame(next func() uint64, most int) (int, [][][2]int, []int) {
	n := 1 + int(next()%65)
	if next()%2 == 0 {
		n = 1 + int(next()%5)
	}
	jobs := make([][][2]int, 1+next()%64)
	if next()%2 == 0 {
		jobs = jobs[:1+next()%min(6, uint64(len(jobs)))]
	}
	for i := range jobs {
		for range next() % 6 {
			jobs[i] = append(jobs[i], [2]int{int(next() % uint64(n)), int(next() % uint64(n))})
		}
	}
	picks := make([]int, next()%uint64(most+1))
	few := 1 + next()%uint64(len(jobs))
	for i := range picks {
		switch next() % 16 {
		case 0:
			picks[i] = strays(len(jobs))[next()%11]
		case 1, 2:
			picks[i] = int(next() % uint64(len(jobs)))
		case 3, 4, 5:
			picks[i] = picks[max(i-1, 0)]
		default:
			picks[i] = int(next() % few)
		}
	}
	return n, jobs, picks
}

// TestDrawnPlays holds L4 of games that are drawn.
func TestDrawnPlays(t *testing.T) {
	next := draw(7)
	for range 600 {
		n, jobs, picks := drawnGame(next, 400)
		checkPlay(t, n, jobs, false, picks)
		checkPlay(t, n, jobs, true, picks)
	}
}

// checkTheorem holds L5 of what is told behind the picks: each lock has one at most, By and Holds tell the same, no section is done twice, and with ordered nobody is stuck. It tells what Play told, and who is stuck.
func checkTheorem(t *testing.T, n int, jobs [][][2]int, ordered bool, picks []int) (outcome, []int) {
	t.Helper()
	got := played(n, jobs, ordered, picks)
	by := slices.Repeat([]int{-1}, n)
	for i, w := range got.jobs {
		for _, lock := range w.Holds {
			if by[lock] >= 0 {
				t.Fatalf("Play(%d, %v, %t, %v): %d and %d have %d", n, jobs, ordered, picks, by[lock], i, lock)
			}
			by[lock] = i
		}
	}
	stuck, errno := Stuck(got.jobs)
	if got.errno != api.OK || errno != api.OK || !slices.Equal(got.locks.By, by) || len(got.jobs) != len(jobs) {
		t.Fatalf("Play(%d, %v, %t, %v): %v, %d", n, jobs, ordered, picks, got, errno)
	}
	if ordered && len(stuck) > 0 {
		t.Fatalf("Play(%d, %v, true, %v): %v; stuck are %v", n, jobs, picks, got, stuck)
	}
	for i, times := range doneBy(len(jobs), got.done) {
		if times > len(jobs[i]) || times == len(jobs[i]) && (got.jobs[i].Wants != -1 || len(got.jobs[i].Holds) > 0) {
			t.Fatalf("Play(%d, %v, %t, %v): %v; %d did %d", n, jobs, ordered, picks, got, i, times)
		}
	}
	return got, stuck
}

// doneBy tells how many sections each of n jobs did.
func doneBy(n int, done []int) []int {
	times := make([]int, n)
	for _, i := range done {
		times[i]++
	}
	return times
}

// checkAllDone holds L5 behind the picks: in turn, ordered, all get done.
func checkAllDone(t *testing.T, n int, jobs [][][2]int, picks []int) {
	t.Helper()
	// With each round one at least does a step.
	rounds := 3 * len(slices.Concat(jobs...))
	turns := slices.Repeat(row(len(jobs)), rounds)
	whole := slices.Concat(picks, turns)
	if len(whole) > api.MaxPicks {
		t.Fatalf("%d picks are too many", len(whole))
	}
	got, _ := checkTheorem(t, n, jobs, true, whole)
	for i, times := range doneBy(len(jobs), got.done) {
		if times != len(jobs[i]) {
			t.Fatalf("Play(%d, %v, true, %v) and %d rounds: %d did %d", n, jobs, picks, rounds, i, times)
		}
	}
}

// checkStays holds L5 of who is stuck behind the first picks: with more of them it is so still, has and wants the same, and has done no section more.
func checkStays(t *testing.T, n int, jobs [][][2]int, first, more []int) int {
	t.Helper()
	before, stuck := checkTheorem(t, n, jobs, false, first)
	behind, still := checkTheorem(t, n, jobs, false, slices.Concat(first, more))
	if len(before.done) > len(behind.done) || !slices.Equal(before.done, behind.done[:len(before.done)]) {
		t.Fatalf("Play(%d, %v, false, %v) and %v: done were %v, then %v", n, jobs, first, more, before.done, behind.done)
	}
	for _, who := range stuck {
		if !slices.Contains(still, who) || !sameWaiter(before.jobs[who], behind.jobs[who]) || slices.Contains(behind.done[len(before.done):], who) {
			t.Fatalf("Play(%d, %v, false, %v) and %v: %d was stuck, and did something", n, jobs, first, more, who)
		}
	}
	return len(stuck)
}

// TestTheorem holds L5 over long rows of picks of several jobs in whatever order, and behind each of their beginnings.
func TestTheorem(t *testing.T) {
	next := draw(8)
	some := 0
	for range 150 {
		n, jobs, picks := drawnGame(next, 300)
		for k := range picks {
			checkTheorem(t, n, jobs, true, picks[:k+1])
			checkTheorem(t, n, jobs, false, picks[:k+1])
		}
		for range 10 {
			k := next() % uint64(len(picks)+1)
			if checkStays(t, n, jobs, picks[:k], picks[k:]) > 0 {
				some++
			}
		}
	}
	if some < 100 {
		t.Fatalf("only %d times somebody was stuck", some)
	}
}

// TestTheoremOfLongRows holds L5 over as many picks as there may be.
func TestTheoremOfLongRows(t *testing.T) {
	next := draw(9)
	for range 60 {
		n, jobs, _ := drawnGame(next, 0)
		picks := make([]int, 20000)
		for i := range picks {
			picks[i] = int(next() % uint64(len(jobs)+1))
		}
		got, _ := checkTheorem(t, n, jobs, true, picks)
		if len(jobs) < 32 && len(got.done) != len(slices.Concat(jobs...)) {
			t.Fatalf("Play(%d, %v, true, 20000 picks): done were %v", n, jobs, got.done)
		}
		checkTheorem(t, n, jobs, false, picks)
		k := int(next() % 20000)
		checkStays(t, n, jobs, picks[:k], picks[k:])
		checkStays(t, n, jobs, picks[:k/200], picks[k/200:])
	}
}

// TestAllGetDone holds L5: ordered, and picked in turn often enough, all get done, behind whatever picks.
func TestAllGetDone(t *testing.T) {
	next := draw(10)
	for range 300 {
		n, jobs, picks := drawnGame(next, 500)
		jobs = jobs[:min(len(jobs), 20)]
		checkAllDone(t, n, jobs, picks)
		checkAllDone(t, n, jobs, nil)
	}
	// 64 of two locks, each of which all want.
	both := slices.Repeat([][][2]int{{{1, 0}}}, 64)
	checkAllDone(t, 2, both, nil)
	checkAllDone(t, 2, both, slices.Repeat([]int{63, 5}, 100))
}

// TestStuckInARing holds that two to 64 jobs, each of which wants the next one's lock, are stuck for ever, unless they are ordered.
func TestStuckInARing(t *testing.T) {
	for n := 2; n <= 64; n++ {
		jobs := make([][][2]int, n)
		for i := range jobs {
			jobs[i] = [][2]int{{i, (i + 1) % n}}
		}
		got, stuck := checkTheorem(t, n, jobs, false, row(n))
		if !slices.Equal(stuck, row(n)) || len(got.done) != 0 {
			t.Fatalf("%d in a ring: %v; stuck are %v", n, got, stuck)
		}
		checkStays(t, n, jobs, row(n), slices.Repeat(row(n), 20000/n-1))
		_, stuck = checkTheorem(t, n, jobs, true, row(n))
		if len(stuck) != 0 {
			t.Fatalf("%d, ordered: stuck are %v", n, stuck)
		}
		checkAllDone(t, n, jobs, row(n))
	}
}

// FuzzLocks holds L1 to L5 of locks, waiters and games that bytes tell.
func FuzzLocks(f *testing.F) {
	f.Add(byte(2), byte(2), []byte{0, 0, 1, 1, 1, 0}, []byte{0, 1, 0, 1}, 1, 0)
	f.Add(byte(3), byte(3), []byte{0, 0, 1, 1, 1, 2, 2, 2, 0}, []byte{0, 1, 2, 0, 1, 2}, 2, 7)
	f.Add(byte(65), byte(64), []byte{63, 64, 64, 0, 3, 4}, []byte{63, 63, 0, 0, 0}, -1, -1)
	f.Add(byte(66), byte(66), []byte{}, []byte{}, 66, 1)
	f.Fuzz(func(t *testing.T, size, many byte, sections, rest []byte, lock, who int) {
		by := make([]int, len(rest))
		picks := make([]int, len(rest))
		l := make([]api.Waiter, many%67)
		for i, x := range rest {
			by[i] = int(int8(x))
			picks[i] = int(x) - 1
			if len(l) > 0 {
				w := &l[int(x)%len(l)]
				w.Holds, w.Wants = append(w.Holds, i), int(x)>>1-1
			}
		}
		checkLock(t, api.Locks{By: by}, lock, who)
		if a, b := Pair(lock, who); a > b || a != lock && b != lock || a != who && b != who {
			t.Fatalf("Pair(%d, %d): %d, %d", lock, who, a, b)
		}
		checkStuck(t, l)
		jobs := make([][][2]int, many%67)
		for k := 0; k+2 < len(sections) && len(jobs) > 0; k += 3 {
			i := int(sections[k]) % len(jobs)
			jobs[i] = append(jobs[i], [2]int{int(sections[k+1]), int(sections[k+2])})
		}
		n := int(size%68) - 1
		checkPlay(t, n, jobs, false, picks)
		if o := checkPlay(t, n, jobs, true, picks); o.errno == api.OK {
			checkTheorem(t, n, jobs, true, picks)
			checkStays(t, n, jobs, picks[:len(picks)/2], picks[len(picks)/2:])
		}
	})
}
