package locks

import (
	"math"
	"slices"
	"testing"

	"turnspit/api"
)

// strays are numbers that are no lock's, of n locks.
func strays(n int) []int {
	return []int{math.MinInt, -1 << 32, -66, -2, -1, n, n + 1, max(n, 65), 66 + n, 1 << 32, math.MaxInt}
}

// guarded tells l, with other numbers behind its length, and a function that says whether all of these are as they were.
func guarded(l []int) ([]int, func() bool) {
	long := append(slices.Clone(l), -1, 0, 7, -77)
	old := slices.Clone(long)
	return long[:len(l)], func() bool { return slices.Equal(long, old) }
}

// spoil writes over all of l, and what stands behind its length.
func spoil(l []int) {
	l = l[:cap(l)]
	for i := range l {
		l[i] = 4711
	}
}

// row tells the numbers from 0 to n - 1.
func row(n int) []int {
	l := make([]int, n)
	for i := range l {
		l[i] = i
	}
	return l
}

// draw tells a row of numbers that looks like chance, and is the same each time.
func draw(seed uint64) func() uint64 {
	x := seed
	return func() uint64 {
		x += 0x9e3779b97f4a7c15
		z := x
		z = (z ^ z>>30) * 0xbf58476d1ce4e5b9
		z = (z ^ z>>27) * 0x94d049bb133111eb
		return z ^ z>>31
	}
}

// shuffled tells l in an order that is drawn.
func shuffled(l []int, next func() uint64) []int {
	l = slices.Clone(l)
	for i := range l {
		j := i + int(next()%uint64(len(l)-i))
		l[i], l[j] = l[j], l[i]
	}
	return l
}

// checkLock holds L1's Take and Give, and that l is not written into.
func checkLock(t *testing.T, l api.Locks, lock, who int) {
	t.Helper()
	for name, x := range map[string]struct {
		does, want func(api.Locks, int, int) (api.Locks, api.Errno)
	}{"Take": {Take, wantTake}, "Give": {Give, wantGive}} {
		by, kept := guarded(l.By)
		want, fault := x.want(l, lock, who)
		got, errno := x.does(api.Locks{By: by}, lock, who)
		if !sameLocks(got, want) || errno != fault {
			t.Fatalf("%s(%v, %d, %d): %v, %d; want %v, %d", name, l, lock, who, got, errno, want, fault)
		}
		spoil(got.By)
		if !kept() {
			t.Fatalf("%s(%v, %d, %d) wrote into it", name, l, lock, who)
		}
	}
}

func TestNew(t *testing.T) {
	for _, n := range []int{math.MinInt, -1 << 32, -65, -2, -1, 66, 67, 128, 1 << 32, math.MaxInt} {
		if l, errno := New(n); len(l.By) != 0 || errno != api.ErrArg {
			t.Fatalf("New(%d): %v, %d", n, l, errno)
		}
	}
	for n := range 66 {
		for range 2 {
			l, errno := New(n)
			if !slices.Equal(l.By, slices.Repeat([]int{-1}, n)) || errno != api.OK {
				t.Fatalf("New(%d): %v, %d", n, l, errno)
			}
			// The next one is told nothing of this.
			spoil(l.By)
		}
	}
}

func TestTakeAndGive(t *testing.T) {
	by := []int{-1, 7, 0, math.MinInt, -2, math.MaxInt}
	// with tells by with who as lock's.
	with := func(lock, who int) []int {
		l := slices.Clone(by)
		l[lock] = who
		return l
	}
	for name, x := range map[string]struct {
		lock, who  int
		take, give []int
		took, gave api.Errno
	}{
		"nobody's":                        {0, 7, with(0, 7), nil, api.OK, api.ErrOrder},
		"nobody's, by 0":                  {0, 0, with(0, 0), nil, api.OK, api.ErrOrder},
		"nobody's, by the greatest":       {0, math.MaxInt, with(0, math.MaxInt), nil, api.OK, api.ErrOrder},
		"By the least":                    {3, 7, with(3, 7), nil, api.OK, api.ErrOrder},
		"By -2":                           {4, 7, with(4, 7), nil, api.OK, api.ErrOrder},
		"one's own":                       {1, 7, nil, with(1, -1), api.ErrOrder, api.OK},
		"0's own":                         {2, 0, nil, with(2, -1), api.ErrOrder, api.OK},
		"the greatest's own":              {5, math.MaxInt, nil, with(5, -1), api.ErrOrder, api.OK},
		"another one's":                   {1, 8, nil, nil, api.ErrHeld, api.ErrOrder},
		"another one's, by 0":             {1, 0, nil, nil, api.ErrHeld, api.ErrOrder},
		"another one's, by the greatest":  {1, math.MaxInt, nil, nil, api.ErrHeld, api.ErrOrder},
		"0's, by another one":             {2, 1, nil, nil, api.ErrHeld, api.ErrOrder},
		"the greatest's, by another one":  {5, math.MaxInt - 1, nil, nil, api.ErrHeld, api.ErrOrder},
		"lock -1":                         {-1, 7, nil, nil, api.ErrArg, api.ErrArg},
		"one beyond":                      {6, 7, nil, nil, api.ErrArg, api.ErrArg},
		"the least lock":                  {math.MinInt, 7, nil, nil, api.ErrArg, api.ErrArg},
		"the greatest lock":               {math.MaxInt, 7, nil, nil, api.ErrArg, api.ErrArg},
		"nobody's, by -1":                 {0, -1, nil, nil, api.ErrArg, api.ErrArg},
		"By -2, by -2":                    {4, -2, nil, nil, api.ErrArg, api.ErrArg},
		"By the least, by the least":      {3, math.MinInt, nil, nil, api.ErrArg, api.ErrArg},
		"another one's, by -1":            {1, -1, nil, nil, api.ErrArg, api.ErrArg},
		"another one's, by the least":     {1, math.MinInt, nil, nil, api.ErrArg, api.ErrArg},
		"lock -1, by -1":                  {-1, -1, nil, nil, api.ErrArg, api.ErrArg},
		"the greatest lock, by the least": {math.MaxInt, math.MinInt, nil, nil, api.ErrArg, api.ErrArg},
	} {
		l := api.Locks{By: by}
		if got, errno := Take(l, x.lock, x.who); !slices.Equal(got.By, x.take) || errno != x.took {
			t.Errorf("%s: Take: %v, %d", name, got, errno)
		}
		if got, errno := Give(l, x.lock, x.who); !slices.Equal(got.By, x.give) || errno != x.gave {
			t.Errorf("%s: Give: %v, %d", name, got, errno)
		}
		checkLock(t, l, x.lock, x.who)
	}
}

// TestAllSmallLocks holds L1 of all short rows of Bys, each lock, and one beside, and by whoever.
func TestAllSmallLocks(t *testing.T) {
	everyRow(-2, 2, 4, nil, func(by []int) {
		for lock := -2; lock <= len(by)+1; lock++ {
			for who := -3; who <= 3; who++ {
				checkLock(t, api.Locks{By: by}, lock, who)
			}
		}
	})
	for _, n := range []int{0, 1, 64, 65, 66, 1000} {
		by := slices.Repeat([]int{-1, 5, 0, -7}, n)[:n]
		for _, lock := range append(strays(n), 0, 1, 2, 3, n-1, n-2) {
			for _, who := range append(strays(0), 5, 6) {
				checkLock(t, api.Locks{By: by}, lock, who)
			}
		}
	}
}

// TestTakenAndGivenBack holds that a lock is one's, till it is given back, and nobody's then.
func TestTakenAndGivenBack(t *testing.T) {
	next := draw(1)
	l, _ := New(65)
	by := slices.Repeat([]int{-1}, 65)
	for range 20000 {
		lock, who := int(next()%65), int(next()%4)
		if got, errno := Take(l, lock, who); errno == api.OK {
			l = got
			if by[lock] >= 0 {
				t.Fatalf("%d took %d, that %d has", who, lock, by[lock])
			}
			by[lock] = who
		}
		lock, who = int(next()%65), int(next()%4)
		if got, errno := Give(l, lock, who); errno == api.OK {
			l = got
			if by[lock] != who {
				t.Fatalf("%d gave %d, that %d has", who, lock, by[lock])
			}
			by[lock] = -1
		}
		if !slices.Equal(l.By, by) {
			t.Fatalf("%v; want %v", l.By, by)
		}
	}
}

func TestPair(t *testing.T) {
	for _, x := range [][2]int{
		{0, 1}, {3, 9}, {-2, 5}, {-5, -2}, {0, 0}, {7, 7}, {-1, -1}, {-1, 0},
		{math.MinInt, math.MaxInt}, {math.MinInt, math.MinInt}, {math.MaxInt, math.MaxInt},
		{math.MinInt, 0}, {0, math.MaxInt}, {math.MinInt, -1}, {math.MaxInt - 1, math.MaxInt},
	} {
		if a, b := Pair(x[0], x[1]); a != x[0] || b != x[1] {
			t.Errorf("Pair(%d, %d): %d, %d", x[0], x[1], a, b)
		}
		if a, b := Pair(x[1], x[0]); a != x[0] || b != x[1] {
			t.Errorf("Pair(%d, %d): %d, %d", x[1], x[0], a, b)
		}
	}
}
