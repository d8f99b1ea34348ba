package mask

import (
	"math"
	"slices"
	"testing"

	"turnspit/api"
)

const top uint64 = 1<<64 - 1

// masks are those without CPUs, with one each, with all but one, with all of some range, and ones of no special form.
func masks() []uint64 {
	l := []uint64{0, top, 9, 6, 5 << 60, 1<<63 | 1, 0x5555555555555555, 0xaaaaaaaaaaaaaaaa, 0xffffffff, 0xffffffff00000000}
	for c := range 64 {
		l = append(l, 1<<c, top-1<<c, 1<<c-1, top-(1<<c-1))
	}
	n := uint64(1)
	for range 64 { // a fixed sequence, thick and thin
		n = n*6364136223846793005 + 1442695040888963407
		l = append(l, n, n&(n>>7)&(n>>19), n|n>>11|n<<13)
	}
	slices.Sort(l)
	return slices.Compact(l)
}

// wrong are no CPUs.
func wrong() []int {
	return []int{math.MinInt, math.MinInt + 1, -1 << 32, -65, -64, -63, -2, -1, 64, 65, 127, 128, 1 << 32, 1<<32 + 3, math.MaxInt - 1, math.MaxInt}
}

// around are all CPUs, and what is none.
func around() []int {
	l := wrong()
	for c := range 64 {
		l = append(l, c)
	}
	return l
}

// wantList tells m's CPUs by the word of the chapter, in halves of m rather than by shifts.
func wantList(m uint64) []int {
	l := []int{}
	for c := 0; m > 0; c++ {
		if m%2 == 1 {
			l = append(l, c)
		}
		m /= 2
	}
	return l
}

// wantMask tells the mask of l, which has each CPU once.
func wantMask(l []int) uint64 {
	var sum uint64
	for _, c := range l {
		power := uint64(1)
		for range c {
			power *= 2
		}
		sum += power
	}
	return sum
}

// wantAbove tells the least one of l, which rises, above c.
func wantAbove(l []int, c int) (int, bool) {
	for _, n := range l {
		if n > c {
			return n, true
		}
	}
	return 0, false
}

func checkAll(t *testing.T, n int) {
	t.Helper()
	var l []int
	for c := range 64 {
		if c < n {
			l = append(l, c)
		}
	}
	if got, want := All(n), wantMask(l); got != want {
		t.Fatalf("All(%d): %#x; want %#x", n, got, want)
	}
}

func checkOf(t *testing.T, l ...int) {
	t.Helper()
	errno := api.OK
	once := map[int]bool{}
	for _, c := range l {
		if c < 0 || c > 63 {
			errno = api.ErrArg
		}
		once[c] = true
	}
	var want uint64
	if errno == api.OK {
		var each []int
		for c := range once {
			each = append(each, c)
		}
		want = wantMask(each)
	}
	if got, e := Of(l...); got != want || e != errno {
		t.Fatalf("Of(%d...): %#x, %d; want %#x, %d", l, got, e, want, errno)
	}
}

func checkOne(t *testing.T, m uint64, c int) {
	t.Helper()
	l := wantList(m)
	i, has := slices.BinarySearch(l, c)
	if got := Has(m, c); got != has {
		t.Fatalf("Has(%#x, %d): %v", m, c, got)
	}
	with, without := m, m
	if has {
		without = wantMask(slices.Delete(slices.Clone(l), i, i+1))
	} else if c >= 0 && c < 64 {
		with = wantMask(append(l, c))
	}
	if got := With(m, c); got != with {
		t.Fatalf("With(%#x, %d): %#x; want %#x", m, c, got, with)
	}
	if got := Without(m, c); got != without {
		t.Fatalf("Without(%#x, %d): %#x; want %#x", m, c, got, without)
	}
}

func checkList(t *testing.T, m uint64) {
	t.Helper()
	want := wantList(m)
	if got := Count(m); got != len(want) {
		t.Fatalf("Count(%#x): %d; want %d", m, got, len(want))
	}
	if got := List(m); !slices.Equal(got, want) {
		t.Fatalf("List(%#x): %d; want %d", m, got, want)
	}
}

func checkWay(t *testing.T, m uint64, c int) {
	t.Helper()
	l := wantList(m)
	first, some := wantAbove(l, math.MinInt)
	if got, ok := First(m); got != first || ok != some {
		t.Fatalf("First(%#x): %d, %v; want %d, %v", m, got, ok, first, some)
	}
	next, more := wantAbove(l, c)
	if got, ok := Next(m, c); got != next || ok != more {
		t.Fatalf("Next(%#x, %d): %d, %v; want %d, %v", m, c, got, ok, next, more)
	}
	if !more {
		next = first
	}
	if got, ok := Round(m, c); got != next || ok != some {
		t.Fatalf("Round(%#x, %d): %d, %v; want %d, %v", m, c, got, ok, next, some)
	}
}

// checkUndone holds Of against List.
func checkUndone(t *testing.T, m uint64) {
	t.Helper()
	if got, e := Of(List(m)...); got != m || e != api.OK {
		t.Fatalf("Of(List(%#x)...): %#x, %d", m, got, e)
	}
}

// checkRound goes round from c on as often as m has CPUs, and so comes by each of them once; and is then back.
func checkRound(t *testing.T, m uint64, c int) {
	t.Helper()
	var come []int
	at := c
	for range Count(m) {
		next, ok := Round(m, at)
		if !ok || !Has(m, next) {
			t.Fatalf("Round(%#x, %d): %d, %v", m, at, next, ok)
		}
		come = append(come, next)
		at = next
	}
	if Has(m, c) && at != c {
		t.Fatalf("round %#x from %d on: at %d at last", m, c, at)
	}
	slices.Sort(come)
	if !slices.Equal(come, List(m)) {
		t.Fatalf("round %#x from %d on: come by %d", m, c, come)
	}
}

// The chapter's examples.
func TestExamples(t *testing.T) {
	if m, e := Of(0, 3); m != 9 || e != api.OK {
		t.Error(m, e)
	}
	if c, ok := Next(9, 0); c != 3 || !ok {
		t.Error(c, ok)
	}
	if c, ok := Round(9, 3); c != 0 || !ok {
		t.Error(c, ok)
	}
}

// D1: n below 0, 0, 64 and above 64.
func TestAll(t *testing.T) {
	for _, x := range []struct {
		n    int
		want uint64
	}{
		{0, 0}, {1, 1}, {2, 3}, {3, 7}, {8, 255}, {32, 1<<32 - 1}, {62, 1<<62 - 1}, {63, 1<<63 - 1}, {64, top},
		{-1, 0}, {-64, 0}, {math.MinInt, 0}, {65, top}, {128, top}, {1 << 32, top}, {math.MaxInt, top},
	} {
		if got := All(x.n); got != x.want {
			t.Errorf("All(%d): %#x; want %#x", x.n, got, x.want)
		}
	}
	for _, n := range around() {
		checkAll(t, n)
	}
}

// D1: no CPU, the CPUs 0 and 63, a CPU twice, in whatever order.
func TestOf(t *testing.T) {
	for _, x := range []struct {
		l    []int
		want uint64
	}{
		{nil, 0}, {[]int{}, 0}, {[]int{0}, 1}, {[]int{63}, 1 << 63}, {[]int{0, 63}, 1<<63 + 1}, {[]int{63, 0}, 1<<63 + 1},
		{[]int{3, 3}, 8}, {[]int{0, 3, 0}, 9}, {[]int{63, 63, 63}, 1 << 63}, {[]int{5, 2, 4}, 52}, {[]int{32, 31}, 3 << 31},
	} {
		if got, e := Of(x.l...); got != x.want || e != api.OK {
			t.Errorf("Of(%d...): %#x, %d; want %#x", x.l, got, e, x.want)
		}
	}
	if m, e := Of(); m != 0 || e != api.OK {
		t.Error(m, e)
	}
	for a := range 64 {
		for b := range 64 {
			checkOf(t, a, b)
			checkOf(t, b, a, 7, b)
		}
	}
}

// D1, R1: one that is no CPU, wherever it stands: ErrArg, and no mask beside it.
func TestOfWrong(t *testing.T) {
	for _, c := range wrong() {
		for _, l := range [][]int{{c}, {c, 1}, {1, c}, {0, 63, c}, {0, c, 63}, {c, c}} {
			if m, e := Of(l...); m != 0 || e != api.ErrArg {
				t.Errorf("Of(%d...): %#x, %d", l, m, e)
			}
			checkOf(t, l...)
		}
	}
}

// D2: the CPUs 0 and 63, one that it has and one that it has not, and what is no CPU.
func TestHasWithWithout(t *testing.T) {
	for _, x := range []struct {
		m             uint64
		c             int
		has           bool
		with, without uint64
	}{
		{9, 0, true, 9, 8}, {9, 3, true, 9, 1}, {9, 1, false, 11, 9}, {0, 0, false, 1, 0}, {0, 63, false, 1 << 63, 0},
		{1 << 63, 63, true, 1 << 63, 0}, {top, 63, true, top, 1<<63 - 1}, {top, 0, true, top, top - 1},
		{5, -1, false, 5, 5}, {5, 64, false, 5, 5}, {top, -1, false, top, top}, {top, 64, false, top, top},
		{0, -1, false, 0, 0}, {0, 64, false, 0, 0}, {top, math.MinInt, false, top, top}, {0, math.MaxInt, false, 0, 0},
	} {
		if Has(x.m, x.c) != x.has || With(x.m, x.c) != x.with || Without(x.m, x.c) != x.without {
			t.Errorf("%#x, %d: %v, %#x, %#x; want %v, %#x, %#x", x.m, x.c, Has(x.m, x.c), With(x.m, x.c), Without(x.m, x.c), x.has, x.with, x.without)
		}
	}
	for _, m := range masks() {
		for _, c := range around() {
			checkOne(t, m, c)
		}
	}
}

// D3: a mask without CPUs, with one, with some and with all 64.
func TestCountList(t *testing.T) {
	for _, x := range []struct {
		m uint64
		l []int
	}{
		{0, nil}, {1, []int{0}}, {1 << 63, []int{63}}, {9, []int{0, 3}}, {1<<63 + 1, []int{0, 63}}, {52, []int{2, 4, 5}}, {3 << 31, []int{31, 32}},
	} {
		if Count(x.m) != len(x.l) || !slices.Equal(List(x.m), x.l) {
			t.Errorf("%#x: %d, %d; want %d", x.m, Count(x.m), List(x.m), x.l)
		}
	}
	if all := List(top); Count(top) != 64 || len(all) != 64 || all[0] != 0 || all[63] != 63 || !slices.IsSorted(all) {
		t.Error(Count(top), all)
	}
	for _, m := range masks() {
		checkList(t, m)
	}
}

// D4: none, one, some and all; c below all, between, the last one, above it, and no CPU.
func TestFirstNextRound(t *testing.T) {
	for _, x := range []struct {
		m           uint64
		c           int
		first, next int
		more        bool
		round       int
	}{
		{9, -1, 0, 0, true, 0}, {9, 0, 0, 3, true, 3}, {9, 2, 0, 3, true, 3}, {9, 3, 0, 0, false, 0}, {9, 4, 0, 0, false, 0}, {9, 63, 0, 0, false, 0},
		{52, 1, 2, 2, true, 2}, {52, 2, 2, 4, true, 4}, {52, 5, 2, 0, false, 2}, {52, 6, 2, 0, false, 2}, {52, 64, 2, 0, false, 2},
		{1 << 63, 62, 63, 63, true, 63}, {1 << 63, 63, 63, 0, false, 63}, {1 << 63, 64, 63, 0, false, 63}, {1 << 63, -1, 63, 63, true, 63},
		{1, -1, 0, 0, true, 0}, {1, 0, 0, 0, false, 0},
		{top, -1, 0, 0, true, 0}, {top, 0, 0, 1, true, 1}, {top, 62, 0, 63, true, 63}, {top, 63, 0, 0, false, 0}, {top, 64, 0, 0, false, 0},
		{6, math.MinInt, 1, 1, true, 1}, {6, math.MaxInt, 1, 0, false, 1}, {6, -64, 1, 1, true, 1}, {6, 1 << 32, 1, 0, false, 1},
	} {
		if c, ok := First(x.m); c != x.first || !ok {
			t.Errorf("First(%#x): %d, %v; want %d", x.m, c, ok, x.first)
		}
		if c, ok := Next(x.m, x.c); c != x.next || ok != x.more {
			t.Errorf("Next(%#x, %d): %d, %v; want %d, %v", x.m, x.c, c, ok, x.next, x.more)
		}
		if c, ok := Round(x.m, x.c); c != x.round || !ok {
			t.Errorf("Round(%#x, %d): %d, %v; want %d", x.m, x.c, c, ok, x.round)
		}
	}
	if c, ok := First(0); c != 0 || ok {
		t.Error(c, ok)
	}
	for _, m := range masks() {
		for _, c := range around() {
			checkWay(t, m, c)
		}
	}
}

// D5: Of undoes List; going round from one on all are come by, each once.
func TestTheorem(t *testing.T) {
	for _, m := range masks() {
		checkUndone(t, m)
		for _, c := range around() {
			checkRound(t, m, c)
		}
	}
}

// R3: of what CPUs a mask is made is not written into, nor what stands behind its length; and a list is new memory each time.
func TestHandedIn(t *testing.T) {
	for _, c := range []int{1, 64, -1} {
		l := []int{5, c, 3, 5, 77, 99}
		Of(l[:4]...)
		if !slices.Equal(l, []int{5, c, 3, 5, 77, 99}) {
			t.Error(l)
		}
	}
	a, b := List(top), List(top)
	a[0] = 99
	if b[0] != 0 || List(top)[0] != 0 {
		t.Error("lists that share memory")
	}
}

// The iterator may be left at any CPU, and begun anew.
func TestRising(t *testing.T) {
	seq := rising(52)
	for n := range 4 {
		var got []int
		for c := range seq {
			if len(got) == n {
				break
			}
			got = append(got, c)
		}
		if !slices.Equal(got, []int{2, 4, 5}[:n]) {
			t.Error(n, got)
		}
	}
}

// FuzzMask holds all promises against the words of the chapter, at whatever numbers.
func FuzzMask(f *testing.F) {
	f.Add(uint64(9), 3, 0)
	f.Add(top, 63, 64)
	f.Add(uint64(1<<63), math.MaxInt, math.MinInt)
	f.Fuzz(func(t *testing.T, m uint64, c, n int) {
		checkAll(t, n)
		checkOf(t, c, n)
		checkOf(t, c&63, n&63, c&63)
		for _, one := range []int{c, n, c & 63} {
			checkOne(t, m, one)
			checkWay(t, m, one)
			checkRound(t, m, one)
		}
		checkList(t, m)
		checkUndone(t, m)
	})
}
