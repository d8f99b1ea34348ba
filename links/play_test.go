package links

import (
	"math"
	"runtime"
	"slices"
	"sync"
	"testing"
	"time"

	"turnspit/api"
)

// guardedJobs tells jobs, each guarded, with another one behind their length, and a function that says whether all of these are as they were.
func guardedJobs(jobs [][]int) ([][]int, func() bool) {
	long := make([][]int, 0, len(jobs)+1)
	var kept []func() bool
	for _, job := range jobs {
		job, same := guarded(job)
		long, kept = append(long, job), append(kept, same)
	}
	long = append(long, []int{1, 2, 3})
	old := slices.Clone(long)
	return long[:len(jobs)], func() bool {
		for i, job := range long {
			if len(job) != len(old[i]) || len(job) > 0 && &job[0] != &old[i][0] {
				return false
			}
		}
		return slices.Equal(long[len(jobs)], []int{1, 2, 3}) && !slices.ContainsFunc(kept, func(same func() bool) bool { return !same() })
	}
}

// checkPlay holds K4, that nothing is written into, that no two lists share, and tells the outcome.
func checkPlay(t *testing.T, n int, jobs [][]int, picks []int) outcome {
	t.Helper()
	inJobs, keptJobs := guardedJobs(jobs)
	inPicks, keptPicks := guarded(picks)
	want := wantPlay(n, jobs, picks)
	got := played(n, inJobs, inPicks)
	if !got.equal(want) {
		t.Fatalf("Play(%d, %v, %v): %v; want %v", n, jobs, picks, got, want)
	}
	for i := range got.taken {
		spoil(got.taken[i])
		if i+1 < len(got.taken) && !slices.Equal(got.taken[i+1], want.taken[i+1]) {
			t.Fatalf("Play(%d, %v, %v): lists share", n, jobs, picks)
		}
	}
	if !sameLinks(got.links, want.links) {
		t.Fatalf("Play(%d, %v, %v): links and lists share", n, jobs, picks)
	}
	spoil(got.links.Next)
	if !keptJobs() || !keptPicks() {
		t.Fatalf("Play(%d, %v, %v) wrote into them", n, jobs, picks)
	}
	return want
}

// TestExample is the chapter's example: the second one's first try fails.
func TestExample(t *testing.T) {
	jobs := [][]int{{0}, {1}}
	picks := []int{0, 1, 0, 1, 1, 1}
	for i, want := range [][]int{nil, nil, nil, {0}, {0}, {0}, {1, 0}} {
		l, taken, found, errno := Play(2, jobs, picks[:i])
		if !sameLinks(l, drawn(2, want...)) || len(taken) != 0 || found != min(len(want), 1) || errno != api.OK {
			t.Errorf("behind %v: %v, %v, %d, %d", picks[:i], l, taken, found, errno)
		}
		checkPlay(t, 2, jobs, picks[:i])
	}
}

// TestPlay holds rows of picks by what the chapter says of each.
func TestPlay(t *testing.T) {
	two := [][]int{{0, 2}, {1, 3}}
	for name, x := range map[string]struct {
		n     int
		jobs  [][]int
		picks []int
		list  []int
		taken [][]int
		found int
	}{
		"nothing at all":                        {0, nil, nil, nil, nil, 0},
		"no jobs: 0 is the taker's":             {3, nil, []int{0, 0}, nil, [][]int{nil, nil}, 0},
		"no jobs: 1 is nobody's":                {3, nil, []int{1, -1}, nil, nil, 0},
		"no picks":                              {4, two, nil, nil, nil, 0},
		"jobs without tasks":                    {2, [][]int{nil, {}}, []int{0, 1, 0, 1, 0, 1}, nil, nil, 0},
		"jobs without tasks, and the taker":     {0, [][]int{nil, {}}, []int{0, 2, 1, 2}, nil, [][]int{nil, nil}, 0},
		"one step":                              {4, two, []int{0}, nil, nil, 0},
		"one push":                              {4, two, []int{0, 0}, []int{0}, nil, 1},
		"a push, and the next one's first step": {4, two, []int{0, 0, 0}, []int{0}, nil, 1},
		"two pushes of one":                     {4, two, []int{0, 0, 0, 0}, []int{2, 0}, nil, 1},
		"one that has nothing left":             {4, two, []int{0, 0, 0, 0, 0, 0, 0}, []int{2, 0}, nil, 1},
		"nothing left, beside one that has":     {4, two, []int{0, 0, 0, 0, 0, 1, 0, 1, 0}, []int{1, 2, 0}, nil, 1},
		"all of both":                           {4, two, []int{0, 0, 1, 1, 0, 0, 1, 1}, []int{3, 2, 1, 0}, nil, 1},
		"others' numbers":                       {4, two, []int{-1, 3, 0, math.MinInt, 7, 0, math.MaxInt, 64}, []int{0}, nil, 1},
		"taken of nobody":                       {4, two, []int{2, 2}, nil, [][]int{nil, nil}, 0},
		"taken of one, then of nobody":          {4, two, []int{0, 0, 2, 2}, nil, [][]int{{0}, nil}, 1},
		"taken of many":                         {4, two, []int{0, 0, 1, 1, 0, 0, 2}, nil, [][]int{{2, 1, 0}}, 1},
		"taken, and pushed again":               {4, two, []int{0, 0, 2, 1, 1, 0, 0, 2, 1, 1}, []int{3}, [][]int{{0}, {2, 1}}, 3},
		"head changed once: a try that fails":   {4, two, []int{0, 1, 1, 0}, []int{1}, nil, 1},
		"head changed once: it begins anew":     {4, two, []int{0, 1, 1, 0, 0}, []int{1}, nil, 1},
		"head changed once: it gets done":       {4, two, []int{0, 1, 1, 0, 0, 0}, []int{0, 1}, nil, 1},
		"head changed twice":                    {4, two, []int{0, 1, 1, 1, 1, 0, 0, 0}, []int{0, 3, 1}, nil, 1},
		"two tries fail":                        {4, two, []int{0, 1, 1, 0, 0, 1, 1, 0, 0, 0}, []int{0, 3, 1}, nil, 1},
		"back to nobody: no try fails":          {4, two, []int{0, 1, 1, 2, 0}, []int{0}, [][]int{{1}}, 2},
		"back to nobody twice":                  {4, two, []int{0, 1, 1, 2, 1, 1, 2, 0}, []int{0}, [][]int{{1}, {3}}, 3},
		"taken of nobody between":               {4, two, []int{0, 2, 0}, []int{0}, [][]int{nil}, 1},
		"taken between: a try that fails":       {4, two, []int{1, 1, 0, 2, 0}, nil, [][]int{{1}}, 1},
		"taken between: it gets done":           {4, two, []int{1, 1, 0, 2, 0, 0, 0}, []int{0}, [][]int{{1}}, 2},
		"both read, one taken":                  {4, two, []int{0, 1, 0, 2, 1}, []int{1}, [][]int{{0}}, 2},
		"others' numbers part no steps":         {4, two, []int{0, 9, -3, 0}, []int{0}, nil, 1},
		"a read parts no steps":                 {4, two, []int{0, 1, 0}, []int{0}, nil, 1},
	} {
		l, taken, found, errno := Play(x.n, x.jobs, x.picks)
		got := outcome{l, taken, found, errno}
		if !got.equal(outcome{drawn(x.n, x.list...), x.taken, x.found, api.OK}) {
			t.Errorf("%s: Play(%d, %v, %v): %v", name, x.n, x.jobs, x.picks, got)
		}
		checkPlay(t, x.n, x.jobs, x.picks)
	}
}

// ones tells n jobs, of a task each.
func ones(n int) [][]int {
	jobs := make([][]int, n)
	for i := range jobs {
		jobs[i] = []int{i}
	}
	return jobs
}

// TestPlayErrors holds which error is told, and that nothing else is.
func TestPlayErrors(t *testing.T) {
	full, over := make([]int, 20000), make([]int, 20001)
	many := append(ones(64), nil)
	twice := slices.Concat(row(64), row(64))
	for name, x := range map[string]struct {
		n     int
		jobs  [][]int
		picks []int
		errno api.Errno
	}{
		"n of -1":                             {-1, nil, nil, api.ErrArg},
		"n of 65":                             {65, nil, nil, api.ErrArg},
		"n the least":                         {math.MinInt, nil, nil, api.ErrArg},
		"n the greatest":                      {math.MaxInt, nil, nil, api.ErrArg},
		"n of 0":                              {0, nil, nil, api.OK},
		"n of 64":                             {64, nil, nil, api.OK},
		"64 pushers":                          {64, ones(64), nil, api.OK},
		"65 pushers":                          {64, many, nil, api.ErrLong},
		"65 pushers without tasks":            {64, make([][]int, 65), nil, api.ErrLong},
		"1000 pushers":                        {64, make([][]int, 1000), nil, api.ErrLong},
		"20000 picks":                         {2, ones(2), full, api.OK},
		"20001 picks":                         {2, ones(2), over, api.ErrLong},
		"20001 picks, no jobs":                {0, nil, over, api.ErrLong},
		"a task below 0":                      {2, [][]int{{0}, {-1}}, nil, api.ErrArg},
		"a task that is the least":            {2, [][]int{{math.MinInt}}, nil, api.ErrArg},
		"a task of n":                         {2, [][]int{{0, 2}}, nil, api.ErrArg},
		"a task of n, of 64":                  {64, [][]int{{64}}, nil, api.ErrArg},
		"a task that is the greatest":         {2, [][]int{{0}, {math.MaxInt}}, nil, api.ErrArg},
		"a task of no tasks":                  {0, [][]int{{0}}, nil, api.ErrArg},
		"twice in one job":                    {2, [][]int{{0, 0}}, nil, api.ErrArg},
		"twice in one job, with one between":  {2, [][]int{{0, 1, 0}}, nil, api.ErrArg},
		"twice in two jobs":                   {2, [][]int{{0}, {0}}, nil, api.ErrArg},
		"twice in two jobs, with one between": {3, [][]int{{0, 1}, {2}, {1}}, nil, api.ErrArg},
		"all 64 twice":                        {64, [][]int{twice}, nil, api.ErrArg},
		"the last of 64 twice":                {64, append(ones(63), []int{63, 63}), nil, api.ErrArg},
		"wrong, but never picked":             {2, [][]int{{0}, {5}}, []int{0, 0}, api.ErrArg},
		"n ahead of pushers":                  {65, make([][]int, 65), over, api.ErrArg},
		"pushers ahead of tasks":              {2, append(many, []int{-1}), nil, api.ErrLong},
		"picks ahead of tasks":                {2, [][]int{{7}}, over, api.ErrLong},
		"picks ahead of twice":                {2, [][]int{{1, 1}}, over, api.ErrLong},
		"pushers, picks":                      {2, make([][]int, 65), over, api.ErrLong},
		"n ahead of tasks":                    {-1, [][]int{{7}}, nil, api.ErrArg},
	} {
		got := played(x.n, x.jobs, x.picks)
		if got.errno != x.errno || x.errno != api.OK && !got.equal(outcome{errno: x.errno}) {
			t.Errorf("%s: %v", name, got)
		}
		checkPlay(t, x.n, x.jobs, x.picks)
	}
}

// TestPicksAtTheLimit holds 64 pushers and 20000 picks, the last of which do what they are to do.
func TestPicksAtTheLimit(t *testing.T) {
	picks := slices.Repeat([]int{65}, 20000)
	picks[19997], picks[19998], picks[19999] = 63, 63, 64
	got := checkPlay(t, 64, ones(64), picks)
	if len(got.taken) != 1 || !slices.Equal(got.taken[0], []int{63}) || got.found != 1 {
		t.Fatal(got.taken, got.found)
	}
	checkPlay(t, 64, [][]int{row(64)}, slices.Repeat([]int{0, 0, 1}, 6666))
	checkPlay(t, 64, ones(64), slices.Repeat([]int{64}, 20000))
}

// TestLongJobs holds jobs of all 64 tasks, and jobs that are wrong and longer than that.
func TestLongJobs(t *testing.T) {
	got := checkPlay(t, 64, [][]int{nil, row(64)}, slices.Repeat([]int{1}, 128))
	if !sameLinks(got.links, drawn(64, reversed(row(64))...)) || got.found != 1 {
		t.Fatal(got)
	}
	checkPlay(t, 64, [][]int{row(1 << 16)}, []int{0, 0})
	checkPlay(t, 64, [][]int{make([]int, 1<<16)}, []int{0, 0})
}

// everyRow hands each row of numbers from low to high, of at most length, to hold.
func everyRow(low, high, length int, l []int, hold func(l []int)) {
	hold(l)
	if len(l) == length {
		return
	}
	for x := low; x <= high; x++ {
		everyRow(low, high, length, append(l, x), hold)
	}
}

// TestAllShort holds K4 and K5 of all rows of short picks.
func TestAllShort(t *testing.T) {
	for _, x := range []struct {
		n, length int
		jobs      [][]int
	}{
		{2, 10, [][]int{{1, 0}}},
		{2, 8, [][]int{{0}, {1}}},
		{3, 7, [][]int{{0, 2}, {1}}},
		{3, 6, [][]int{{2}, {}, {0, 1}}},
		{0, 5, [][]int{{}, {}}},
	} {
		everyRow(0, len(x.jobs), x.length, nil, func(picks []int) {
			checkPlay(t, x.n, x.jobs, picks)
			checkTheorem(t, x.n, x.jobs, picks)
		})
	}
	everyRow(-1, 3, 5, nil, func(picks []int) { checkPlay(t, 2, [][]int{{1}, {0}}, picks) })
}

// TestByCalls holds that Play does what its words say by the calls of this layer: each pick a Step, or a Take.
func TestByCalls(t *testing.T) {
	next := draw(3)
	for range 200 {
		n, jobs, picks := game(next, 300)
		l, _ := New(n)
		var taken [][]int
		at := make([]api.Push, len(jobs))
		rest := slices.Clone(jobs)
		for i := range at {
			at[i].Phase = 2
		}
		for _, pick := range picks {
			var errno api.Errno
			switch {
			case pick == len(jobs):
				var list []int
				l, list, errno = Take(l)
				taken = append(taken, list)
			case pick >= 0 && pick < len(jobs):
				if at[pick].Phase == 2 && len(rest[pick]) > 0 {
					at[pick], rest[pick] = api.Push{Id: rest[pick][0]}, rest[pick][1:]
				}
				if at[pick].Phase != 2 {
					l, at[pick], errno = Step(l, at[pick])
				}
			}
			if errno != api.OK {
				t.Fatalf("Play(%d, %v, %v), by calls: %d", n, jobs, picks, errno)
			}
		}
		got := played(n, jobs, picks)
		if !got.equal(outcome{l, taken, got.found, api.OK}) {
			t.Fatalf("Play(%d, %v, %v): %v; by calls %v, %v", n, jobs, picks, got, l, taken)
		}
	}
}

// TestSameEachTime holds that the same jobs and picks tell the same, however many goroutines run at once, and whoever else plays.
func TestSameEachTime(t *testing.T) {
	old := runtime.GOMAXPROCS(0)
	defer runtime.GOMAXPROCS(old)
	next := draw(4)
	for _, procs := range []int{1, 2, 3, 8} {
		runtime.GOMAXPROCS(procs)
		n, jobs, picks := game(next, 2000)
		want := wantPlay(n, jobs, picks)
		var all sync.WaitGroup
		faults := make([]outcome, 16)
		for i := range faults {
			all.Add(1)
			go func() {
				defer all.Done()
				for range 5 {
					if got := played(n, jobs, picks); !got.equal(want) {
						faults[i] = got
					}
				}
			}()
		}
		all.Wait()
		for _, got := range faults {
			if !got.equal(outcome{}) {
				t.Fatalf("Play(%d, %v, %v): %v; want %v", n, jobs, picks, got, want)
			}
		}
	}
}

// TestAllEnd holds that no goroutine is left behind a play, however far its pushers are.
func TestAllEnd(t *testing.T) {
	before := runtime.NumGoroutine()
	for range 50 {
		Play(64, ones(64), nil)
		Play(64, ones(64), row(65))
		Play(64, ones(64), slices.Concat(row(32), row(32), row(65)))
		Play(64, append(ones(64), nil), row(65))
		Play(64, [][]int{{0}, {0}}, row(3))
		Play(64, make([][]int, 64), row(65))
	}
	for range 1000 {
		if runtime.NumGoroutine() <= before {
			return
		}
		time.Sleep(time.Millisecond)
	}
	t.Fatalf("%d goroutines, and %d ahead of the plays", runtime.NumGoroutine(), before)
}

// TestAllAreJoined holds that a play waits for its pushers: where one goroutine runs at a time, those that were not waited for are there still when it has told.
func TestAllAreJoined(t *testing.T) {
	defer runtime.GOMAXPROCS(runtime.GOMAXPROCS(1))
	before := runtime.NumGoroutine()
	left := 0
	for range 100 {
		Play(64, ones(64), row(65))
		if runtime.NumGoroutine() > before+1 {
			left++
		}
	}
	// The runtime may part one or the other from its end.
	if left > 50 {
		t.Fatalf("%d of 100 plays left goroutines", left)
	}
}

// game tells a drawn number of tasks, jobs of some of these, and at most so many picks, some of which are nobody's.
func game(next func() uint64, most int) (int, [][]int, []int) {
	n := int(next() % 65)
	jobs := make([][]int, 1+next()%64)
	for _, id := range shuffled(row(n), next) {
		if i := next() % uint64(len(jobs)+1); i < uint64(len(jobs)) {
			jobs[i] = append(jobs[i], id)
		}
	}
	picks := make([]int, next()%uint64(most+1))
	few := 1 + next()%uint64(len(jobs))
	for i := range picks {
		switch next() % 16 {
		case 0:
			picks[i] = len(jobs)
		case 1:
			picks[i] = strays(len(jobs) + 1)[next()%12]
		case 2:
			picks[i] = int(next() % uint64(len(jobs)))
		case 3, 4, 5:
			picks[i] = picks[max(i-1, 0)]
		default:
			picks[i] = int(next() % few)
		}
	}
	return n, jobs, picks
}

// TestDrawn holds K4 of games that are drawn.
func TestDrawn(t *testing.T) {
	next := draw(5)
	for range 300 {
		n, jobs, picks := game(next, 600)
		checkPlay(t, n, jobs, picks)
	}
}

// parts tells l without what is in no job: in l's order, what is in this one.
func parts(l, job []int) []int {
	return slices.DeleteFunc(slices.Clone(l), func(id int) bool { return !slices.Contains(job, id) })
}

// checkTheorem holds K5 of what is told: of each pusher what was taken with each pick, and is in the list, each the other way round, is the beginning of its job. It tells how many tasks of each one were pushed.
func checkTheorem(t *testing.T, n int, jobs [][]int, picks []int) []int {
	t.Helper()
	got := played(n, jobs, picks)
	if got.errno != api.OK || !Right(got.links) || len(got.links.Next) != n {
		t.Fatalf("Play(%d, %v, %v): %v", n, jobs, picks, got)
	}
	_, list, _ := Take(got.links)
	all := append(slices.Clone(got.taken), list)
	pushed := make([]int, len(jobs))
	sum, some := 0, 0
	for i, job := range jobs {
		var order []int
		for _, l := range all {
			order = append(order, reversed(parts(l, job))...)
		}
		pushed[i] = len(order)
		sum += len(order)
		if len(order) > len(job) || !slices.Equal(order, job[:len(order)]) {
			t.Fatalf("Play(%d, %v, %v): %d pushed %v", n, jobs, picks, i, order)
		}
	}
	for _, l := range all {
		sum -= len(l)
		some += min(len(l), 1)
	}
	if sum != 0 || some != got.found {
		t.Fatalf("Play(%d, %v, %v): %v: %d tasks too many, %d lists of some", n, jobs, picks, got, -sum, some)
	}
	return pushed
}

// checkDone holds that whoever is picked often enough gets done: behind whatever picks, one alone, and all in turn, with the taker and without.
func checkDone(t *testing.T, n int, jobs [][]int, picks []int) {
	t.Helper()
	at := checkTheorem(t, n, jobs, picks)
	for i, job := range jobs {
		// One step more, if it is between two of them.
		left := len(job) - at[i]
		for _, steps := range []int{2 * left, 2*left + 1} {
			now := checkTheorem(t, n, jobs, slices.Concat(picks, slices.Repeat([]int{i}, steps)))
			if now[i] < at[i]+max(left-1, 0) || steps > 2*left && now[i] < len(job) {
				t.Fatalf("Play(%d, %v, %v) and %d times %d: it pushed %d, then %d", n, jobs, picks, steps, i, at[i], now[i])
			}
		}
	}
	for _, more := range []int{0, 1} {
		// Each try that fails, fails for a push, or for a taking of what was pushed.
		rounds := 2*(len(slices.Concat(jobs...))*2+1) + 2*n + 1
		now := checkTheorem(t, n, jobs, slices.Concat(picks, slices.Repeat(row(len(jobs)+more), rounds)))
		for i, job := range jobs {
			if now[i] != len(job) {
				t.Fatalf("Play(%d, %v, %v) and %d rounds: %d pushed %d", n, jobs, picks, rounds, i, now[i])
			}
		}
	}
}

// TestTheorem holds K5 over long rows of picks of several pushers and the taker, and behind each of their beginnings that is drawn.
func TestTheorem(t *testing.T) {
	next := draw(6)
	for range 40 {
		n, jobs, picks := game(next, 10000)
		n, jobs = n%24, jobs[:min(len(jobs), 12)]
		for i := range jobs {
			jobs[i] = slices.DeleteFunc(jobs[i], func(id int) bool { return id >= n })
		}
		for i := range picks {
			picks[i] %= len(jobs) + 2
		}
		checkTheorem(t, n, jobs, picks)
		for range 4 {
			checkDone(t, n, jobs, picks[:next()%min(uint64(len(picks)+1), 200)])
		}
	}
}

// TestTheoremOfLongRows holds K5 over as many pushers, tasks and picks as there may be.
func TestTheoremOfLongRows(t *testing.T) {
	next := draw(7)
	for _, jobs := range [][][]int{ones(64), {row(64)}, {row(64)[:32], row(64)[32:]}, {row(64)[:1], nil, row(64)[1:]}} {
		picks := make([]int, 20000)
		for i := range picks {
			picks[i] = int(next() % uint64(len(jobs)+1))
		}
		checkPlay(t, 64, jobs, picks)
		for i, n := range checkTheorem(t, 64, jobs, picks) {
			if n != len(jobs[i]) {
				t.Fatalf("%v: %d pushed %d", jobs, i, n)
			}
		}
	}
}

// TestTwoStepsAreEnough holds that two steps that no other one's part push one task, behind whatever picks, if no push is at its second step.
func TestTwoStepsAreEnough(t *testing.T) {
	next := draw(8)
	for range 500 {
		n, jobs, picks := game(next, 60)
		var pairs []int
		for _, pick := range picks {
			pairs = append(pairs, pick, pick)
		}
		pushed := make([]int, len(jobs))
		for i := range jobs {
			for _, pick := range picks {
				if pick == i {
					pushed[i]++
				}
			}
			pushed[i] = min(pushed[i], len(jobs[i]))
		}
		if got := checkTheorem(t, n, jobs, pairs); !slices.Equal(got, pushed) {
			t.Fatalf("Play(%d, %v, %v): pushed %v; want %v", n, jobs, pairs, got, pushed)
		}
	}
}

// FuzzLinks holds K1 to K5 of links and games that bytes tell.
func FuzzLinks(f *testing.F) {
	f.Add(byte(2), byte(2), []byte{0, 1}, []byte{0, 1, 0, 1, 1, 1}, 1)
	f.Add(byte(4), byte(3), []byte{3, 0, 2, 2}, []byte{0, 0, 1, 1, 3, 2, 2, 3}, 2)
	f.Add(byte(64), byte(64), []byte{0, 1, 2, 3, 4, 5, 6, 7}, []byte{64, 63, 62}, -1)
	f.Add(byte(66), byte(66), []byte{}, []byte{}, 66)
	f.Fuzz(func(t *testing.T, size, pushers byte, owners, rest []byte, id int) {
		l := api.Links{Head: int(int8(size)), Next: make([]int, len(rest))}
		picks := make([]int, len(rest))
		for i, x := range rest {
			l.Next[i] = int(int8(x))
			picks[i] = int(x) - 1
		}
		checkRight(t, l)
		checkPut(t, l, id)
		checkStep(t, l, api.Push{Id: id, Phase: int(pushers % 4), Read: int(size)})
		jobs := make([][]int, pushers%68)
		for task, owner := range owners {
			if int(owner) < len(jobs) {
				jobs[owner] = append(jobs[owner], task)
			}
		}
		n := int(size%68) - 1
		if o := checkPlay(t, n, jobs, picks); o.errno == api.OK {
			checkTheorem(t, n, jobs, picks)
		}
	})
}
