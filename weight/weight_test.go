package weight

import (
	"math"
	"math/big"
	"slices"
	"testing"

	"turnspit/api"
)

// chapter is the weights as the chapter lists them, laid apart from the program's own table.
func chapter() []int {
	return []int{88761, 71755, 56483, 46273, 36291, 29154, 23254, 18705, 14949, 11916, 9548, 7620, 6100, 4904, 3906, 3121, 2501, 1991, 1586, 1277,
		1024, 820, 655, 526, 423, 335, 272, 215, 172, 137, 110, 87, 70, 56, 45, 36, 29, 23, 18, 15}
}

// noNices are the edges outside -20 to 19.
func noNices() []int {
	return []int{-21, 20, -22, 21, 88761, math.MinInt, math.MinInt + 1, math.MaxInt}
}

// times are edges and ordinary numbers, in order, none below 0.
func times() []int {
	l := []int{0, 1, 2, 14, 15, 16, 100, 1000, 1023, 1024, 1025, 88760, 88761, 88762, 1<<20 + 1, 1<<40 - 1, 1 << 40, 1<<40 + 1, 1<<44 + 3,
		1<<48 - 1, 1 << 48, 1<<48 + 1, 1<<53 - 1, 1 << 53, 1<<54 - 1, 1 << 54, 1<<54 + 1, 1<<62 + 7, math.MaxInt - 1, math.MaxInt}
	n := uint64(1)
	for range 40 { // a fixed sequence: numbers of no special form, of all sizes
		n = n*6364136223846793005 + 1442695040888963407
		l = append(l, int(n>>(1+n>>59)))
	}
	slices.Sort(l)
	return slices.Compact(l)
}

// lists are ones that Sum and Share take, the empty one not among them.
func lists() [][]int {
	all := make([]int, 0, 40)
	for nice := -20; nice <= 19; nice++ {
		all = append(all, nice)
	}
	return [][]int{{0}, {-20}, {19}, {0, 0}, {-20, 19}, {19, 19, 19}, {5, -3, 0, 11, -20, 5}, all,
		slices.Repeat([]int{-20}, 64), slices.Repeat([]int{19}, 64), slices.Repeat([]int{7, -7, 0, 18}, 16)}
}

func checkDelta(t *testing.T, d, weight int) {
	t.Helper()
	want, wantErrno := 0, api.ErrArg
	if d >= 0 && weight >= 1 {
		n := new(big.Int).Mul(big.NewInt(int64(d)), big.NewInt(1024))
		n.Quo(n, big.NewInt(int64(weight)))
		if most := big.NewInt(1 << 48); n.Cmp(most) > 0 {
			n = most
		}
		want, wantErrno = int(n.Int64()), api.OK
	}
	if got, errno := Delta(d, weight); got != want || errno != wantErrno {
		t.Fatalf("Delta(%d, %d): %d, %d; want %d, %d", d, weight, got, errno, want, wantErrno)
	}
}

func checkSum(t *testing.T, l []int, want int, wantErrno api.Errno) {
	t.Helper()
	if got, errno := Sum(l); got != want || errno != wantErrno {
		t.Errorf("Sum(%v): %d, %d; want %d, %d", l, got, errno, want, wantErrno)
	}
}

func checkShare(t *testing.T, d, nice int, l []int, want int, wantErrno api.Errno) {
	t.Helper()
	if got, errno := Share(d, nice, l); got != want || errno != wantErrno {
		t.Errorf("Share(%d, %d, %v): %d, %d; want %d, %d", d, nice, l, got, errno, want, wantErrno)
	}
}

// B1: each nice's weight; ErrArg just outside, and far.
func TestOf(t *testing.T) {
	if n := len(chapter()); n != 40 {
		t.Fatal(n)
	}
	for i, want := range chapter() {
		if got, errno := Of(i - 20); got != want || errno != api.OK {
			t.Errorf("Of(%d): %d, %d; want %d", i-20, got, errno, want)
		}
	}
	for _, nice := range noNices() {
		if got, errno := Of(nice); got != 0 || errno != api.ErrArg {
			t.Errorf("Of(%d): %d, %d; want ErrArg", nice, got, errno)
		}
	}
}

// B1: the least nice that is as light; 19 below all of them.
func TestNice(t *testing.T) {
	for _, x := range []struct{ weight, want int }{
		{1000, 1}, {1024, 0}, {1023, 1}, {1276, 0}, {1277, -1},
		{88761, -20}, {88762, -20}, {88760, -19}, {1 << 40, -20}, {math.MaxInt, -20},
		{18, 18}, {17, 19}, {15, 19},
		{14, 19}, {1, 19}, {0, 19}, {-1, 19}, {math.MinInt, 19}, // no nice is as light
	} {
		if got := Nice(x.weight); got != x.want {
			t.Errorf("Nice(%d): %d; want %d", x.weight, got, x.want)
		}
	}
	for weight := 15; weight < 90000; weight++ {
		want := slices.IndexFunc(chapter(), func(w int) bool { return w <= weight }) - 20
		if got := Nice(weight); got != want {
			t.Fatalf("Nice(%d): %d; want %d", weight, got, want)
		}
	}
}

// B2: rounded down, at most 2^48, also where 1024 times d goes beyond 64 bits; ErrArg.
func TestDelta(t *testing.T) {
	for _, x := range []struct {
		d, weight, want int
		errno           api.Errno
	}{
		{100, 1024, 100, api.OK},
		{100, 15, 6826, api.OK},
		{0, 1, 0, api.OK},
		{1, 1, 1024, api.OK},
		{1, 1025, 0, api.OK},
		{2, 2047, 1, api.OK},
		{1<<48 - 1, 1024, 1<<48 - 1, api.OK}, // the last one ahead of the most
		{1 << 48, 1024, 1 << 48, api.OK},
		{1<<48 + 1, 1024, 1 << 48, api.OK},
		{1 << 38, 1, 1 << 48, api.OK},
		{1<<38 - 1, 1, 1<<48 - 1024, api.OK},
		{1 << 54, 1 << 20, 1 << 44, api.OK}, // the product is 2^64
		{1<<54 - 1, 1<<63 - 1, 1, api.OK},
		{math.MaxInt, math.MaxInt, 1024, api.OK},
		{math.MaxInt, 1 << 24, 1 << 48, api.OK},
		{math.MaxInt, 1 << 25, 1<<48 - 1, api.OK},
		{math.MaxInt, 1, 1 << 48, api.OK},
		{-1, 15, 0, api.ErrArg},
		{1, 0, 0, api.ErrArg},
		{0, 0, 0, api.ErrArg},
		{1, -1, 0, api.ErrArg},
		{-1, -1, 0, api.ErrArg},
		{math.MinInt, 1024, 0, api.ErrArg},
		{1024, math.MinInt, 0, api.ErrArg},
	} {
		if got, errno := Delta(x.d, x.weight); got != x.want || errno != x.errno {
			t.Errorf("Delta(%d, %d): %d, %d; want %d, %d", x.d, x.weight, got, errno, x.want, x.errno)
		}
	}
	for _, d := range times() {
		for _, weight := range append(times(), chapter()...) {
			checkDelta(t, d, weight)
		}
	}
}

// B3: the sum of up to 64; ErrLong ahead of ErrArg.
func TestSum(t *testing.T) {
	checkSum(t, nil, 0, api.OK)
	checkSum(t, []int{}, 0, api.OK)
	checkSum(t, []int{0}, 1024, api.OK)
	checkSum(t, []int{-20, 19, 0, 0}, 88761+15+1024+1024, api.OK)
	checkSum(t, make([]int, 64), 65536, api.OK)
	checkSum(t, slices.Repeat([]int{-20}, 64), 64*88761, api.OK)
	checkSum(t, make([]int, 65), 0, api.ErrLong)
	checkSum(t, slices.Repeat([]int{20}, 65), 0, api.ErrLong)
	checkSum(t, slices.Repeat([]int{20}, 64), 0, api.ErrArg)
	checkSum(t, append(make([]int, 63), -21), 0, api.ErrArg)
	for _, nice := range noNices() {
		checkSum(t, []int{nice}, 0, api.ErrArg)
		checkSum(t, []int{0, nice, 0}, 0, api.ErrArg)
	}
	for _, l := range lists() {
		want := 0
		for _, nice := range l {
			want += chapter()[nice+20]
		}
		checkSum(t, l, want, api.OK)
	}
}

// B3: nice's part, rounded down, whether nice is of l or not.
func TestShare(t *testing.T) {
	checkShare(t, 1000, 0, []int{0, 0}, 500, api.OK)
	checkShare(t, 1000, 0, []int{0, 0, 0}, 333, api.OK)
	checkShare(t, 10, -20, []int{19}, 59174, api.OK)
	checkShare(t, 10, 19, []int{-20}, 0, api.OK)
	checkShare(t, 0, 0, []int{0}, 0, api.OK)
	checkShare(t, 1<<40, 0, []int{0}, 1<<40, api.OK)
	checkShare(t, 1<<40, 0, make([]int, 64), 1<<34, api.OK)
	checkShare(t, 1<<40, -20, []int{19}, 6506250106201702, api.OK)
	for _, l := range lists() {
		sum := 0
		for _, nice := range l {
			sum += chapter()[nice+20]
		}
		for _, d := range times() {
			if d > 1<<40 {
				break
			}
			for nice := -20; nice <= 19; nice++ {
				checkShare(t, d, nice, l, d*chapter()[nice+20]/sum, api.OK)
			}
		}
	}
}

// B3: d and nice first, then Sum's error, then an empty list.
func TestShareErrors(t *testing.T) {
	long, wrong := slices.Repeat([]int{20}, 65), []int{0, 20}
	for _, d := range []int{-1, 1<<40 + 1, math.MinInt, math.MaxInt} {
		checkShare(t, d, 0, []int{0}, 0, api.ErrArg)
		checkShare(t, d, 0, long, 0, api.ErrArg)
	}
	for _, nice := range noNices() {
		checkShare(t, 5, nice, []int{0}, 0, api.ErrArg)
		checkShare(t, 5, nice, long, 0, api.ErrArg)
	}
	checkShare(t, 5, 0, make([]int, 65), 0, api.ErrLong)
	checkShare(t, 5, 0, long, 0, api.ErrLong)
	checkShare(t, 5, 0, wrong, 0, api.ErrArg)
	checkShare(t, 5, 0, nil, 0, api.ErrArg)
	checkShare(t, 0, 0, []int{}, 0, api.ErrArg)
}

// B4: who is nicer by 1 weighs less, by between a sixth and 22 of a hundred; Nice undoes Of.
func TestTheoremOfWeights(t *testing.T) {
	for nice := -20; nice <= 19; nice++ {
		weight, _ := Of(nice)
		if got := Nice(weight); got != nice {
			t.Errorf("Nice(Of(%d)): %d", nice, got)
		}
		if nice == 19 {
			break
		}
		lighter, _ := Of(nice + 1)
		if less := weight - lighter; 6*less < weight || 100*less > 22*weight {
			t.Errorf("nice %d: %d, one more: %d", nice, weight, lighter)
		}
	}
}

func delta(d, nice int) int {
	weight, _ := Of(nice)
	step, _ := Delta(d, weight)
	return step
}

// B4: virtual time grows with time, and is less of who weighs more. What is rounded away may make two of them the same, so may the most: so strictly only where they are some way apart and below it.
func TestTheoremOfTime(t *testing.T) {
	l := times()
	for i, d := range l {
		for nice := -20; nice <= 19; nice++ {
			step, later := delta(d, nice), delta(l[min(i+1, len(l)-1)], nice)
			if step > later {
				t.Fatalf("nice %d: %d of %d, %d of what is next", nice, step, d, later)
			}
			if d >= 100 && d <= 1<<37 && delta(d+100, nice) <= step {
				t.Fatalf("nice %d: %d of %d and of 100 more", nice, step, d)
			}
			lighter := delta(d, min(nice+1, 19))
			if step > lighter {
				t.Fatalf("%d: %d of nice %d, %d of one more", d, step, nice, lighter)
			}
			if nice < 19 && d >= 1000 && d <= 1<<40 && step == lighter {
				t.Fatalf("%d: %d of nice %d and of one more", d, step, nice)
			}
		}
	}
}

// B4: shares of all are no more than what is shared, and less by fewer than they are.
func TestTheoremOfShares(t *testing.T) {
	for _, l := range lists() {
		for _, d := range times() {
			if d > 1<<40 {
				break
			}
			sum := 0
			for _, nice := range l {
				share, _ := Share(d, nice, l)
				sum += share
			}
			if sum > d || sum <= d-len(l) {
				t.Fatalf("shares of %d among %v: %d in all", d, l, sum)
			}
		}
	}
}

// R3: neither the list nor what stands behind its length is written into.
func TestHandedIn(t *testing.T) {
	whole := []int{3, -7, 19, 0, 99, -99}
	kept := slices.Clone(whole)
	for n := range len(whole) + 1 {
		Sum(whole[:n])
		Share(1000, 3, whole[:n])
		if !slices.Equal(whole, kept) {
			t.Fatal(n, whole)
		}
	}
}

// FuzzDelta holds Delta against math/big, at whatever numbers.
func FuzzDelta(f *testing.F) {
	f.Add(100, 15)
	f.Add(math.MaxInt, 1<<25)
	f.Add(-1, 0)
	f.Fuzz(func(t *testing.T, d, weight int) { checkDelta(t, d, weight) })
}
