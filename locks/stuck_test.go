package locks

import (
	"math"
	"slices"
	"testing"

	"turnspit/api"
)

// holding tells one who wants, and has the locks.
func holding(wants int, locks ...int) api.Waiter { return api.Waiter{Holds: locks, Wants: wants} }

// ring tells n waiters: each one has the lock of its own number, beside first, and wants the next one's.
func ring(n, first int) []api.Waiter {
	l := make([]api.Waiter, n)
	for i := range l {
		l[i] = holding(first+(i+1)%n, first+i)
	}
	return l
}

// guardedWaiters tells l, with others behind its length and theirs, and a function that says whether all of these are as they were.
func guardedWaiters(l []api.Waiter) ([]api.Waiter, func() bool) {
	long := append(slices.Clone(l), holding(3, 9), holding(9, 3))
	var all []func() bool
	for i := range long {
		var kept func() bool
		long[i].Holds, kept = guarded(long[i].Holds)
		all = append(all, kept)
	}
	old := slices.Clone(long)
	return long[:len(l)], func() bool {
		for _, kept := range all {
			if !kept() {
				return false
			}
		}
		return slices.EqualFunc(long, old, sameWaiter)
	}
}

// checkStuck holds L3, and that l is not written into.
func checkStuck(t *testing.T, l []api.Waiter) {
	t.Helper()
	in, kept := guardedWaiters(l)
	want, fault := wantStuck(l)
	for range 2 {
		got, errno := Stuck(in)
		if !slices.Equal(got, want) || errno != fault {
			t.Fatalf("Stuck(%v): %v, %d; want %v, %d", l, got, errno, want, fault)
		}
		spoil(got)
		if !kept() {
			t.Fatalf("Stuck(%v) wrote into it", l)
		}
	}
	if len(l) > 6 || fault != api.OK {
		return
	}
	if set, all := greatest(l); !slices.Equal(set, want) || !all {
		t.Fatalf("of %v the greatest set is %v, %t; the words say %v", l, set, all, want)
	}
}

func TestStuck(t *testing.T) {
	const least, most = math.MinInt, math.MaxInt
	for name, x := range map[string]struct {
		l    []api.Waiter
		want []int
	}{
		"nobody, nil":                     {nil, nil},
		"nobody, of length 0":             {[]api.Waiter{}, nil},
		"one, of zero value":              {make([]api.Waiter, 1), nil},
		"64, of zero value":               {make([]api.Waiter, 64), nil},
		"wants nothing":                   {[]api.Waiter{holding(-1, 0)}, nil},
		"wants what nobody has":           {[]api.Waiter{holding(1, 0)}, nil},
		"wants the greatest":              {[]api.Waiter{holding(most, 0)}, nil},
		"wants a lock below 0":            {[]api.Waiter{holding(-2, 0), holding(least, 1)}, nil},
		"two want what nobody has":        {[]api.Waiter{holding(5), holding(5)}, nil},
		"two want nothing":                {[]api.Waiter{holding(-1), holding(-1)}, nil},
		"two":                             {[]api.Waiter{holding(1, 0), holding(0, 1)}, []int{0, 1}},
		"two, of far locks":               {[]api.Waiter{holding(most, 0), holding(0, most)}, []int{0, 1}},
		"two, without a ring":             {[]api.Waiter{holding(1, 0), holding(2, 1)}, nil},
		"two wait for one":                {[]api.Waiter{holding(1), holding(2), holding(-1, 1, 2)}, nil},
		"three":                           {ring(3, 0), []int{0, 1, 2}},
		"three, the other way round":      {[]api.Waiter{holding(2, 0), holding(0, 1), holding(1, 2)}, []int{0, 1, 2}},
		"64":                              {ring(64, 0), row(64)},
		"64, of other locks":              {ring(64, 1<<40), row(64)},
		"two rings":                       {append(ring(2, 0), ring(3, 5)...), []int{0, 1, 2, 3, 4}},
		"a ring, and one beside":          {append(ring(2, 1), holding(-1, 0), holding(0)), []int{0, 1}},
		"one waits for a ring":            {append(ring(2, 0), holding(1)), []int{0, 1, 2}},
		"ahead of its ring":               {append([]api.Waiter{holding(1)}, ring(2, 0)...), []int{0, 1, 2}},
		"one waits for who waits for it":  {append(ring(2, 0), holding(7, 6), holding(0, 7)), []int{0, 1, 2, 3}},
		"broken by one that waits for 0":  {[]api.Waiter{holding(1, 0), holding(2, 1), holding(-1, 2)}, nil},
		"broken by one that is first":     {[]api.Waiter{holding(-1, 0), holding(0, 1), holding(1, 2)}, nil},
		"broken by what nobody has":       {[]api.Waiter{holding(1, 0), holding(2, 1), holding(9, 2)}, nil},
		"two rings, one broken":           {append(ring(2, 0), holding(5, 4), holding(-1, 5)), []int{0, 1}},
		"one has several locks":           {[]api.Waiter{holding(9, 0, 1, 2), holding(0, 9)}, []int{0, 1}},
		"by the last of several locks":    {[]api.Waiter{holding(9, 0, 1, 2), holding(2, 9)}, []int{0, 1}},
		"by the one between":              {[]api.Waiter{holding(9, 4, 1, 2), holding(1, 3, 9)}, []int{0, 1}},
		"several locks, of no ring":       {[]api.Waiter{holding(-1, 0, 1, 2), holding(1, 3), holding(3)}, nil},
		"wants 0, that the next one has":  {[]api.Waiter{{}, holding(-1, 0)}, nil},
		"wants 0, that one of a ring has": {append([]api.Waiter{{}}, ring(2, 0)...), []int{0, 1, 2}},
	} {
		if got, errno := Stuck(x.l); !slices.Equal(got, x.want) || errno != api.OK {
			t.Errorf("%s: Stuck(%v): %v, %d", name, x.l, got, errno)
		}
		checkStuck(t, x.l)
	}
}

func TestStuckFaults(t *testing.T) {
	const least, most = math.MinInt, math.MaxInt
	for name, x := range map[string]struct {
		l    []api.Waiter
		want api.Errno
	}{
		"65":                                {make([]api.Waiter, 65), api.ErrLong},
		"65, in a ring":                     {ring(65, 0), api.ErrLong},
		"1000":                              {make([]api.Waiter, 1000), api.ErrLong},
		"65, one wants what it has":         {append(ring(64, 0), holding(64, 64)), api.ErrLong},
		"65, a lock twice":                  {append(ring(64, 0), holding(-1, 0)), api.ErrLong},
		"65, one below 0":                   {append(ring(64, 0), holding(-1, -1)), api.ErrLong},
		"64, one wants what it has":         {append(ring(63, 0), holding(64, 64)), api.ErrArg},
		"64, a lock twice":                  {append(ring(63, 0), holding(-1, 0)), api.ErrArg},
		"twice in one's":                    {[]api.Waiter{holding(-1, 3, 3)}, api.ErrArg},
		"twice in one's, not side by side":  {[]api.Waiter{holding(-1, 3, 4, 3)}, api.ErrArg},
		"twice in one's, of a ring":         {[]api.Waiter{holding(1, 0, 0), holding(0, 1)}, api.ErrArg},
		"twice in two's":                    {[]api.Waiter{holding(-1, 3), holding(-1, 3)}, api.ErrArg},
		"twice in two's, among others":      {[]api.Waiter{holding(-1, 1, 3), holding(-1, 2), holding(-1, 4, 3, 5)}, api.ErrArg},
		"twice in two's, wanted by a third": {[]api.Waiter{holding(-1, 0), holding(-1, 0), holding(0)}, api.ErrArg},
		"0 twice":                           {[]api.Waiter{holding(-1, 0), holding(-1, 0)}, api.ErrArg},
		"the greatest twice":                {[]api.Waiter{holding(-1, most), holding(-1, most)}, api.ErrArg},
		"-1":                                {[]api.Waiter{holding(5, -1)}, api.ErrArg},
		"-1, and no other fault":            {append(ring(2, 0), holding(0, 5, -1)), api.ErrArg},
		"the least":                         {[]api.Waiter{holding(5, least)}, api.ErrArg},
		"below 0, behind others":            {[]api.Waiter{holding(-1, 0, 1, -7)}, api.ErrArg},
		"below 0, and wants it":             {[]api.Waiter{holding(-1, -1)}, api.ErrArg},
		"below 0, that another one wants":   {[]api.Waiter{holding(-1), holding(3, -1)}, api.ErrArg},
		"wants what it has":                 {[]api.Waiter{holding(0, 0)}, api.ErrArg},
		"wants one of what it has":          {[]api.Waiter{holding(4, 3, 4, 5)}, api.ErrArg},
		"wants the last of what it has":     {[]api.Waiter{holding(5, 3, 4, 5)}, api.ErrArg},
		"the last one wants what it has":    {append(ring(2, 0), holding(7, 7)), api.ErrArg},
		"wants the greatest, that it has":   {[]api.Waiter{holding(most, most)}, api.ErrArg},
	} {
		if got, errno := Stuck(x.l); len(got) != 0 || errno != x.want {
			t.Errorf("%s: Stuck(%v): %v, %d", name, x.l, got, errno)
		}
		checkStuck(t, x.l)
	}
}

// TestAllSmallStuck holds L3 of all waiters of few locks: whose each lock is, or nobody's, and what each one wants.
func TestAllSmallStuck(t *testing.T) {
	for n := range 5 {
		everyRow(-1, n-1, n, nil, func(by []int) {
			everyRow(-1, len(by), n, nil, func(wants []int) {
				if len(wants) < n {
					return
				}
				l := make([]api.Waiter, n)
				for i := range l {
					l[i].Wants = wants[i]
				}
				for lock, who := range by {
					if who >= 0 {
						l[who].Holds = append(l[who].Holds, lock)
					}
				}
				checkStuck(t, l)
			})
		})
	}
}

// TestAllSmallHolds holds L3 of all short Holds of two, right and wrong ones.
func TestAllSmallHolds(t *testing.T) {
	everyRow(-1, 2, 2, nil, func(a []int) {
		everyRow(-1, 2, 2, nil, func(b []int) {
			for x := -2; x <= 3; x++ {
				for y := -2; y <= 3; y++ {
					checkStuck(t, []api.Waiter{{Holds: a, Wants: x}, {Holds: b, Wants: y}})
				}
			}
		})
	})
}

// crowd tells drawn waiters, right ones: of n, each with some locks, and wanting one.
func crowd(next func() uint64, n int) []api.Waiter {
	l := make([]api.Waiter, n)
	if n == 0 {
		return l
	}
	locks := shuffled(row(2*n), next)
	for i, lock := range locks {
		if i < n {
			l[i].Holds = []int{lock}
		} else if next()%2 == 0 {
			who := next() % uint64(n)
			l[who].Holds = append(l[who].Holds, lock)
		}
	}
	for i := range l {
		switch wants := locks[next()%uint64(2*n)]; {
		case next()%uint64(n) == 0:
			l[i].Wants = -1 - int(next()%3)
		case slices.Contains(l[i].Holds, wants):
			l[i].Wants = 2 * n
		default:
			l[i].Wants = wants
		}
	}
	return l
}

// TestDrawnStuck holds L3 of waiters that are drawn, and of what harms them.
func TestDrawnStuck(t *testing.T) {
	next := draw(2)
	some := 0
	for range 3000 {
		l := crowd(next, int(next()%67))
		checkStuck(t, l)
		if got, _ := Stuck(l); len(got) > 0 && len(got) < len(l) {
			some++
		}
		if len(l) == 0 {
			continue
		}
		who := next() % uint64(len(l))
		l[who].Holds = append(l[who].Holds, int(next()%uint64(2*len(l)+1))-1)
		checkStuck(t, l)
		l[next()%uint64(len(l))].Wants = int(next() % uint64(2*len(l)))
		checkStuck(t, l)
	}
	if some < 500 {
		t.Fatalf("of some only are stuck %d times", some)
	}
}

// TestLongWays holds L3 of 64, of whom each waits for the next one: in whatever order they stand, all are stuck, if the last one waits for one of them, and else none.
func TestLongWays(t *testing.T) {
	next := draw(3)
	for _, order := range [][]int{row(64), shuffled(row(64), next), shuffled(row(64), next)} {
		for end := -1; end <= 64; end++ {
			l := make([]api.Waiter, 64)
			for i, who := range order {
				l[who] = holding(i+1, i)
			}
			last := order[63]
			l[last].Wants = end
			if end == 63 {
				// It wants what it has.
				checkStuck(t, l)
				continue
			}
			var want []int
			if end >= 0 && end < 63 {
				want = row(64)
			}
			if got, errno := Stuck(l); !slices.Equal(got, want) || errno != api.OK {
				t.Fatalf("%d wants %d: %v, %d", last, end, got, errno)
			}
			checkStuck(t, l)
			slices.Reverse(l)
			checkStuck(t, l)
		}
	}
}

// TestManyHolds holds L3 of Holds that are long.
func TestManyHolds(t *testing.T) {
	l := []api.Waiter{holding(1<<20, row(1<<18)...), holding(1<<18-1, 1<<20)}
	if got, errno := Stuck(l); !slices.Equal(got, []int{0, 1}) || errno != api.OK {
		t.Fatal(got, errno)
	}
	l[1].Holds = append(l[1].Holds, 1<<17)
	if got, errno := Stuck(l); len(got) != 0 || errno != api.ErrArg {
		t.Fatal(got, errno)
	}
}
