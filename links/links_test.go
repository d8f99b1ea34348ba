package links

import (
	"math"
	"slices"
	"testing"

	"turnspit/api"
)

// strays are numbers that are no task's, of n tasks.
func strays(n int) []int {
	return []int{math.MinInt, -1 << 32, -65, -3, -2, -1, n, n + 1, 64, 65, 1 << 32, math.MaxInt}
}

// guarded tells l, with other numbers behind its length, and a function that says whether all of these are as they were.
func guarded(l []int) ([]int, func() bool) {
	long := append(slices.Clone(l), -2, 0, -1, 77)
	old := slices.Clone(long)
	return long[:len(l)], func() bool { return slices.Equal(long, old) }
}

// guardedLinks tells l, guarded.
func guardedLinks(l api.Links) (api.Links, func() bool) {
	next, kept := guarded(l.Next)
	return api.Links{Head: l.Head, Next: next}, kept
}

// spoil writes over all of l, and what stands behind its length.
func spoil(l []int) {
	l = l[:cap(l)]
	for i := range l {
		l[i] = 4711
	}
}

// row tells the numbers from 0 to n - 1.
func row(n int) []int {
	l := make([]int, n)
	for i := range l {
		l[i] = i
	}
	return l
}

// draw tells a row of numbers that looks like chance, and is the same each time.
func draw(seed uint64) func() uint64 {
	x := seed
	return func() uint64 {
		x += 0x9e3779b97f4a7c15
		z := x
		z = (z ^ z>>30) * 0xbf58476d1ce4e5b9
		z = (z ^ z>>27) * 0x94d049bb133111eb
		return z ^ z>>31
	}
}

// shuffled tells l in an order that is drawn.
func shuffled(l []int, next func() uint64) []int {
	l = slices.Clone(l)
	for i := range l {
		j := i + int(next()%uint64(len(l)-i))
		l[i], l[j] = l[j], l[i]
	}
	return l
}

// checkRight holds K1's Right, and K2's Take, and that l is not written into.
func checkRight(t *testing.T, l api.Links) {
	t.Helper()
	in, kept := guardedLinks(l)
	_, right := wantList(l)
	if got := Right(in); got != right {
		t.Fatalf("Right(%v): %t", l, got)
	}
	want, tasks, fault := wantTake(l)
	got, taken, errno := Take(in)
	if !sameLinks(got, want) || !slices.Equal(taken, tasks) || errno != fault {
		t.Fatalf("Take(%v): %v, %v, %d; want %v, %v, %d", l, got, taken, errno, want, tasks, fault)
	}
	spoil(taken)
	if !sameLinks(got, want) {
		t.Fatalf("Take(%v): links and list share", l)
	}
	spoil(got.Next)
	if !kept() {
		t.Fatalf("Right or Take of %v wrote into it", l)
	}
}

// checkPut holds K2's Put, and that l is not written into.
func checkPut(t *testing.T, l api.Links, id int) {
	t.Helper()
	in, kept := guardedLinks(l)
	want, none, fault := wantPut(l, id)
	got, first, errno := Put(in, id)
	if !sameLinks(got, want) || first != none || errno != fault {
		t.Fatalf("Put(%v, %d): %v, %t, %d; want %v, %t, %d", l, id, got, first, errno, want, none, fault)
	}
	spoil(got.Next)
	if !kept() {
		t.Fatalf("Put(%v, %d) wrote into it", l, id)
	}
}

// checkStep holds K3, and that l is not written into.
func checkStep(t *testing.T, l api.Links, p api.Push) {
	t.Helper()
	in, kept := guardedLinks(l)
	want, behind, fault := wantStep(l, p)
	got, push, errno := Step(in, p)
	if !sameLinks(got, want) || push != behind || errno != fault {
		t.Fatalf("Step(%v, %v): %v, %v, %d; want %v, %v, %d", l, p, got, push, errno, want, behind, fault)
	}
	spoil(got.Next)
	if !kept() {
		t.Fatalf("Step(%v, %v) wrote into it", l, p)
	}
}

// checkSteps holds K3 of a task in all phases, and in those beside them, with each Read that there may be, and with others.
func checkSteps(t *testing.T, l api.Links, id int) {
	t.Helper()
	for _, phase := range []int{math.MinInt, -1, 0, 1, 2, 3, math.MaxInt} {
		for _, read := range append(strays(len(l.Next)), 0, 1, l.Head) {
			checkStep(t, l, api.Push{Id: id, Phase: phase, Read: read})
		}
	}
}

// checkAll holds K1 to K3 of l, and of its tasks and others.
func checkAll(t *testing.T, l api.Links) {
	t.Helper()
	checkRight(t, l)
	for _, id := range append(strays(len(l.Next)), row(len(l.Next))...) {
		checkPut(t, l, id)
		checkSteps(t, l, id)
	}
}

func TestNew(t *testing.T) {
	for _, n := range []int{math.MinInt, -1 << 32, -64, -2, -1, 65, 66, 128, 1 << 32, math.MaxInt} {
		if l, errno := New(n); l.Head != 0 || len(l.Next) != 0 || errno != api.ErrArg {
			t.Fatalf("New(%d): %v, %d", n, l, errno)
		}
	}
	for n := range 65 {
		l, errno := New(n)
		if l.Head != -1 || len(l.Next) != n || errno != api.OK || !Right(l) {
			t.Fatalf("New(%d): %v, %d", n, l, errno)
		}
		for id, next := range l.Next {
			if next != -2 {
				t.Fatalf("New(%d): %d's Next is %d", n, id, next)
			}
		}
		spoil(l.Next)
		if l, _ := New(n); !sameLinks(l, drawn(n)) {
			t.Fatalf("New(%d) once more: %v", n, l)
		}
		checkRight(t, drawn(n))
	}
}

// TestRight holds links that are right, and links that are not, by what the chapter says of each.
func TestRight(t *testing.T) {
	long := drawn(65)
	full := drawn(64, row(64)...)
	ring := drawn(64, row(64)...)
	ring.Next[63] = 0
	over := drawn(64, row(64)...)
	over.Next = append(over.Next, -2)
	for name, x := range map[string]struct {
		l    api.Links
		want bool
	}{
		"no links, nil":                  {api.Links{Head: -1}, true},
		"no links, of length 0":          {api.Links{Head: -1, Next: []int{}}, true},
		"nobody":                         {api.Links{Head: -1, Next: []int{-2, -2, -2}}, true},
		"one alone":                      {api.Links{Head: 0, Next: []int{-1}}, true},
		"one":                            {api.Links{Head: 1, Next: []int{-2, -1, -2}}, true},
		"two":                            {api.Links{Head: 2, Next: []int{-1, -2, 0}}, true},
		"all":                            {api.Links{Head: 1, Next: []int{2, 0, -1}}, true},
		"all 64":                         {full, true},
		"64, nobody":                     {drawn(64), true},
		"64, one":                        {drawn(64, 63), true},
		"zero value":                     {api.Links{}, false},
		"no links, a Head":               {api.Links{Head: 1}, false},
		"no links, a Head that is Out":   {api.Links{Head: -2}, false},
		"65, nobody":                     {long, false},
		"65, 64 in the list":             {over, false},
		"1000, nobody":                   {drawn(1000), false},
		"Head beyond":                    {api.Links{Head: 3, Next: []int{-1, -2, 0}}, false},
		"Head the greatest":              {api.Links{Head: math.MaxInt, Next: []int{-1, -2, 0}}, false},
		"Head below -2":                  {api.Links{Head: -3, Next: []int{-2, -2}}, false},
		"Head the least":                 {api.Links{Head: math.MinInt, Next: []int{-2, -2}}, false},
		"Head is -2":                     {api.Links{Head: -2, Next: []int{-2, -2}}, false},
		"Head is one that is Out":        {api.Links{Head: 0, Next: []int{-2, -2}}, false},
		"Head is Out, another is in":     {api.Links{Head: 0, Next: []int{-2, -1}}, false},
		"nobody, one not Out":            {api.Links{Head: -1, Next: []int{-2, -1}}, false},
		"one that is not come by":        {api.Links{Head: 0, Next: []int{-1, -1}}, false},
		"one that is not come by, ahead": {api.Links{Head: 0, Next: []int{-1, 0}}, false},
		"one is its own next":            {api.Links{Head: 0, Next: []int{0}}, false},
		"one beside is its own next":     {api.Links{Head: 0, Next: []int{-1, 1}}, false},
		"a ring of two":                  {api.Links{Head: 0, Next: []int{1, 0}}, false},
		"a ring of two beside":           {api.Links{Head: 0, Next: []int{-1, 2, 1}}, false},
		"a ring behind the first one":    {api.Links{Head: 0, Next: []int{1, 2, 1}}, false},
		"a ring of 64":                   {ring, false},
		"come by twice":                  {api.Links{Head: 0, Next: []int{2, 2, -1}}, false},
		"to one that is Out":             {api.Links{Head: 0, Next: []int{1, -2}}, false},
		"Next beyond":                    {api.Links{Head: 0, Next: []int{2, -2}}, false},
		"Next the greatest":              {api.Links{Head: 0, Next: []int{math.MaxInt, -2}}, false},
		"Next below -2":                  {api.Links{Head: 0, Next: []int{-3, -2}}, false},
		"Next the least":                 {api.Links{Head: 0, Next: []int{math.MinInt, -2}}, false},
		"Next below -2, not come by":     {api.Links{Head: 0, Next: []int{-1, -3}}, false},
		"Next beyond, not come by":       {api.Links{Head: 0, Next: []int{-1, 2}}, false},
		"nobody, Next below -2":          {api.Links{Head: -1, Next: []int{-3}}, false},
	} {
		if got := Right(x.l); got != x.want {
			t.Errorf("%s: Right(%v): %t", name, x.l, got)
		}
		if _, want := wantList(x.l); want != x.want {
			t.Errorf("%s: the words say %t of %v", name, want, x.l)
		}
		checkAll(t, x.l)
		if x.want {
			continue
		}
		if l, taken, errno := Take(x.l); l.Head != 0 || len(l.Next) != 0 || len(taken) != 0 || errno != api.ErrArg {
			t.Errorf("%s: Take(%v): %v, %v, %d", name, x.l, l, taken, errno)
		}
		for id := -1; id <= len(x.l.Next); id++ {
			if l, first, errno := Put(x.l, id); l.Head != 0 || len(l.Next) != 0 || first || errno != api.ErrArg {
				t.Errorf("%s: Put(%v, %d): %v, %t, %d", name, x.l, id, l, first, errno)
			}
			if l, p, errno := Step(x.l, api.Push{Id: id, Read: 3}); l.Head != 0 || len(l.Next) != 0 || p != (api.Push{}) || errno != api.ErrArg {
				t.Errorf("%s: Step(%v) of %d: %v, %v, %d", name, x.l, id, l, p, errno)
			}
		}
	}
}

func TestPut(t *testing.T) {
	for _, x := range []struct {
		n     int
		list  []int
		id    int
		links api.Links
		first bool
		errno api.Errno
	}{
		{1, nil, 0, api.Links{Head: 0, Next: []int{-1}}, true, api.OK},
		{4, nil, 2, api.Links{Head: 2, Next: []int{-2, -2, -1, -2}}, true, api.OK},
		{4, nil, 3, api.Links{Head: 3, Next: []int{-2, -2, -2, -1}}, true, api.OK},
		{4, []int{2}, 0, api.Links{Head: 0, Next: []int{2, -2, -1, -2}}, false, api.OK},
		{4, []int{0, 2}, 3, api.Links{Head: 3, Next: []int{2, -2, -1, 0}}, false, api.OK},
		{4, []int{3, 0, 2}, 1, api.Links{Head: 1, Next: []int{2, 3, -1, 0}}, false, api.OK},
		{4, []int{0}, 0, api.Links{}, false, api.ErrBusy},
		{4, []int{3, 0, 2}, 3, api.Links{}, false, api.ErrBusy},
		{4, []int{3, 0, 2}, 0, api.Links{}, false, api.ErrBusy},
		{4, []int{3, 0, 2}, 2, api.Links{}, false, api.ErrBusy},
		{4, []int{3, 0, 2}, -1, api.Links{}, false, api.ErrArg},
		{4, []int{3, 0, 2}, 4, api.Links{}, false, api.ErrArg},
		{4, nil, math.MinInt, api.Links{}, false, api.ErrArg},
		{4, nil, math.MaxInt, api.Links{}, false, api.ErrArg},
		{0, nil, 0, api.Links{}, false, api.ErrArg},
		{0, nil, -1, api.Links{}, false, api.ErrArg},
	} {
		l, first, errno := Put(drawn(x.n, x.list...), x.id)
		if !sameLinks(l, x.links) || first != x.first || errno != x.errno {
			t.Errorf("Put of %d, list %v of %d: %v, %t, %d", x.id, x.list, x.n, l, first, errno)
		}
		checkPut(t, drawn(x.n, x.list...), x.id)
	}
}

func TestTake(t *testing.T) {
	for _, x := range []struct {
		l    api.Links
		list []int
	}{
		{api.Links{Head: -1}, nil},
		{api.Links{Head: -1, Next: []int{-2, -2, -2, -2}}, nil},
		{api.Links{Head: 2, Next: []int{-2, -2, -1, -2}}, []int{2}},
		{api.Links{Head: 0, Next: []int{2, -2, -1, -2}}, []int{0, 2}},
		{api.Links{Head: 3, Next: []int{2, -2, -1, 0}}, []int{3, 0, 2}},
		{api.Links{Head: 1, Next: []int{2, 3, -1, 0}}, []int{1, 3, 0, 2}},
		{drawn(64, row(64)...), row(64)},
	} {
		l, taken, errno := Take(x.l)
		if !sameLinks(l, drawn(len(x.l.Next))) || !slices.Equal(taken, x.list) || errno != api.OK {
			t.Errorf("Take(%v): %v, %v, %d", x.l, l, taken, errno)
		}
		checkRight(t, x.l)
	}
}

func TestStep(t *testing.T) {
	same := drawn(4, 0, 2)
	for _, x := range []struct {
		p, want api.Push
		links   api.Links
		errno   api.Errno
	}{
		{api.Push{Id: 1, Phase: 0, Read: 3}, api.Push{Id: 1, Phase: 1, Read: 0}, same, api.OK},
		{api.Push{Id: 1, Phase: 0, Read: math.MinInt}, api.Push{Id: 1, Phase: 1, Read: 0}, same, api.OK},
		{api.Push{Id: 3, Phase: 0, Read: 0}, api.Push{Id: 3, Phase: 1, Read: 0}, same, api.OK},
		{api.Push{Id: 1, Phase: 1, Read: 0}, api.Push{Id: 1, Phase: 2, Read: 0}, drawn(4, 1, 0, 2), api.OK},
		{api.Push{Id: 3, Phase: 1, Read: 0}, api.Push{Id: 3, Phase: 2, Read: 0}, drawn(4, 3, 0, 2), api.OK},
		{api.Push{Id: 1, Phase: 1, Read: 2}, api.Push{Id: 1, Phase: 0, Read: 2}, same, api.OK},
		{api.Push{Id: 1, Phase: 1, Read: 1}, api.Push{Id: 1, Phase: 0, Read: 1}, same, api.OK},
		{api.Push{Id: 1, Phase: 1, Read: -1}, api.Push{Id: 1, Phase: 0, Read: -1}, same, api.OK},
		{api.Push{Id: 1, Phase: 1, Read: math.MaxInt}, api.Push{Id: 1, Phase: 0, Read: math.MaxInt}, same, api.OK},
		{api.Push{Id: 1, Phase: 2, Read: 0}, api.Push{}, api.Links{}, api.ErrArg},
		{api.Push{Id: 1, Phase: 3, Read: 0}, api.Push{}, api.Links{}, api.ErrArg},
		{api.Push{Id: 1, Phase: -1, Read: 0}, api.Push{}, api.Links{}, api.ErrArg},
		{api.Push{Id: -1, Phase: 1, Read: 0}, api.Push{}, api.Links{}, api.ErrArg},
		{api.Push{Id: 4, Phase: 0, Read: 0}, api.Push{}, api.Links{}, api.ErrArg},
		{api.Push{Id: math.MinInt, Phase: 0, Read: 0}, api.Push{}, api.Links{}, api.ErrArg},
		{api.Push{Id: math.MaxInt, Phase: 1, Read: 0}, api.Push{}, api.Links{}, api.ErrArg},
		{api.Push{Id: 0, Phase: 0, Read: 0}, api.Push{}, api.Links{}, api.ErrBusy},
		{api.Push{Id: 0, Phase: 1, Read: 0}, api.Push{}, api.Links{}, api.ErrBusy},
		{api.Push{Id: 2, Phase: 1, Read: 1}, api.Push{}, api.Links{}, api.ErrBusy},
		{api.Push{Id: 2, Phase: 2, Read: 0}, api.Push{}, api.Links{}, api.ErrArg},
		{api.Push{Id: 2, Phase: -1, Read: 0}, api.Push{}, api.Links{}, api.ErrArg},
	} {
		l, p, errno := Step(same, x.p)
		if !sameLinks(l, x.links) || p != x.want || errno != x.errno {
			t.Errorf("Step of %v: %v, %v, %d", x.p, l, p, errno)
		}
		checkStep(t, same, x.p)
	}
}

// TestStepOfNobody holds pushes into a list of nobody: the head that is read, and is there still, is -1.
func TestStepOfNobody(t *testing.T) {
	l, p, errno := Step(drawn(2), api.Push{Id: 1, Read: 5})
	if !sameLinks(l, drawn(2)) || p != (api.Push{Id: 1, Phase: 1, Read: -1}) || errno != api.OK {
		t.Fatal(l, p, errno)
	}
	l, p, errno = Step(l, p)
	if !sameLinks(l, drawn(2, 1)) || p != (api.Push{Id: 1, Phase: 2, Read: -1}) || errno != api.OK {
		t.Fatal(l, p, errno)
	}
	if l, p, errno = Step(l, p); !sameLinks(l, api.Links{}) || p != (api.Push{}) || errno != api.ErrArg {
		t.Fatal(l, p, errno)
	}
	l, p, errno = Step(drawn(2), api.Push{Id: 1, Phase: 1, Read: -2})
	if !sameLinks(l, drawn(2)) || p != (api.Push{Id: 1, Read: -2}) || errno != api.OK {
		t.Fatal(l, p, errno)
	}
}

// lists hands each list of tasks below n, with each order, to hold.
func lists(n int, l []int, hold func(l []int)) {
	hold(l)
	for id := range n {
		if !slices.Contains(l, id) {
			lists(n, append(slices.Clone(l), id), hold)
		}
	}
}

// everyLinks hands all links of n tasks with numbers from -3 to n to hold.
func everyLinks(n int, hold func(l api.Links)) {
	l := api.Links{Next: make([]int, n)}
	var fill func(i int)
	fill = func(i int) {
		for x := -3; x <= n; x++ {
			if i == n {
				l.Head = x
				hold(l)
				continue
			}
			l.Next[i] = x
			fill(i + 1)
		}
	}
	fill(0)
}

// TestAllSmall holds K1 to K3 of all links of at most four tasks: right are those of a list, and no others.
func TestAllSmall(t *testing.T) {
	for n := range 5 {
		right := map[[5]int]int{}
		code := func(l api.Links) [5]int {
			c := [5]int{l.Head}
			copy(c[1:], l.Next)
			return c
		}
		lists(n, nil, func(l []int) {
			x := drawn(n, l...)
			right[code(x)]++
			if _, taken, errno := Take(x); !slices.Equal(taken, l) || errno != api.OK {
				t.Fatalf("Take(%v): %v, %d", x, taken, errno)
			}
			checkAll(t, x)
		})
		everyLinks(n, func(l api.Links) {
			if got := Right(l); got != (right[code(l)] == 1) {
				t.Fatalf("Right(%v): %t", l, got)
			}
			checkRight(t, l)
			for id := -1; id <= n; id++ {
				checkPut(t, l, id)
				checkStep(t, l, api.Push{Id: id, Phase: 1, Read: l.Head})
			}
		})
	}
}

// TestHarmed holds links of up to 64 tasks in which one number is another one.
func TestHarmed(t *testing.T) {
	next := draw(1)
	for n := range 65 {
		for _, k := range []int{0, 1, n / 2, n} {
			l := drawn(n, shuffled(row(n), next)[:min(k, n)]...)
			checkRight(t, l)
			for _, x := range append(strays(n), 0, n-1, n/2) {
				checkRight(t, api.Links{Head: x, Next: l.Next})
				for range min(n, 3) {
					harmed := slices.Clone(l.Next)
					harmed[next()%uint64(n)] = x
					checkRight(t, api.Links{Head: l.Head, Next: harmed})
					checkPut(t, api.Links{Head: l.Head, Next: harmed}, int(next()%uint64(n)))
				}
			}
		}
	}
}

// TestMany holds rows of puts and takes of up to 64 tasks, in orders that are drawn.
func TestMany(t *testing.T) {
	next := draw(2)
	for _, n := range []int{0, 1, 2, 3, 5, 8, 13, 21, 34, 63, 64} {
		l, _ := New(n)
		order := shuffled(row(n), next)
		for i, id := range order {
			checkPut(t, l, id)
			checkSteps(t, l, id)
			put, first, errno := Put(l, id)
			if first != (i == 0) || errno != api.OK {
				t.Fatalf("Put(%v, %d): %t, %d", l, id, first, errno)
			}
			if _, _, errno := Put(put, id); errno != api.ErrBusy {
				t.Fatalf("Put(%v, %d) twice: %d", l, id, errno)
			}
			l = put
		}
		checkAll(t, l)
		left, taken, errno := Take(l)
		if !sameLinks(left, drawn(n)) || !slices.Equal(taken, reversed(order)) || errno != api.OK {
			t.Fatalf("Take(%v): %v, %v, %d", l, left, taken, errno)
		}
	}
}
