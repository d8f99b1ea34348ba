package turn

import (
	"math"
	"math/big"
	"slices"
	"testing"

	"turnspit/api"
)

const (
	top    uint64 = 1<<64 - 1
	maxLag        = 1 << 50
)

// times are edges and ordinary numbers: pairs of them are the same, just 2^63 apart, one less, and across 2^64.
func times() []uint64 {
	l := []uint64{0, 1, 2, 5, 7, 1000, 1<<20 + 3, 1<<50 - 1, 1 << 50, 1<<50 + 1, 1<<62 - 1, 1 << 62, 1<<62 + 1,
		1<<63 - 2, 1<<63 - 1, 1 << 63, 1<<63 + 1, 1<<63 + 5, 3<<62 - 1, 3 << 62, 3<<62 + 1, 1<<64 - 1<<50, 1<<64 - 7, top - 1, top}
	n := uint64(1)
	for range 24 { // a fixed sequence: numbers of no special form, of all sizes
		n = n*6364136223846793005 + 1442695040888963407
		l = append(l, n>>(n>>58))
	}
	slices.Sort(l)
	return slices.Compact(l)
}

// numbers are the same ones, as lags.
func numbers() []int {
	l := []int{-maxLag - 1, -maxLag, -maxLag + 1, math.MinInt + maxLag - 1, math.MinInt + maxLag, math.MinInt + maxLag + 1,
		math.MaxInt - maxLag - 1, math.MaxInt - maxLag, math.MaxInt - maxLag + 1}
	for _, n := range times() {
		l = append(l, int(n))
	}
	slices.Sort(l)
	return slices.Compact(l)
}

// steps are how far to step: some below 1, some that go beyond 2^63 - 1 with a lag.
func steps() []int {
	return []int{math.MinInt, -maxLag, -1, 0, 1, 2, 3, 1000, 1 << 48, maxLag - 1, maxLag, maxLag + 1, 1 << 62, math.MaxInt - maxLag, math.MaxInt - 1, math.MaxInt}
}

func whole() *big.Int { return new(big.Int).Lsh(big.NewInt(1), 64) }

func unsigned(n uint64) *big.Int { return new(big.Int).SetUint64(n) }

func signed(n int) *big.Int { return big.NewInt(int64(n)) }

// round tells n modulo 2^64.
func round(n *big.Int) uint64 { return new(big.Int).Mod(n, whole()).Uint64() }

// wantLag tells the lag by the words of the chapter: of v less min the one that is from -2^63 to 2^63 - 1.
func wantLag(v, min uint64) *big.Int {
	n := new(big.Int).Sub(unsigned(v), unsigned(min))
	n.Mod(n, whole())
	if n.Bit(63) == 1 {
		n.Sub(n, whole())
	}
	return n
}

func wantBefore(a, b uint64) bool {
	n := new(big.Int).Sub(unsigned(b), unsigned(a))
	n.Mod(n, whole())
	return n.Cmp(big.NewInt(1)) >= 0 && n.Cmp(big.NewInt(math.MaxInt64)) <= 0
}

func wantStep(v, min uint64, d int) uint64 {
	lag, most := wantLag(v, min), big.NewInt(maxLag)
	if d < 1 || lag.Cmp(most) >= 0 {
		return v
	}
	if lag.Add(lag, signed(d)).Cmp(most) > 0 {
		lag = most
	}
	return round(lag.Add(lag, unsigned(min)))
}

func checkOrder(t *testing.T, a, b uint64) {
	t.Helper()
	before := wantBefore(a, b)
	if got := Before(a, b); got != before {
		t.Fatalf("Before(%d, %d): %v; want %v", a, b, got, before)
	}
	later := a
	if before {
		later = b
	}
	if got := Later(a, b); got != later {
		t.Fatalf("Later(%d, %d): %d; want %d", a, b, got, later)
	}
	earlier := a
	if wantBefore(b, a) {
		earlier = b
	}
	if got := Earlier(a, b); got != earlier {
		t.Fatalf("Earlier(%d, %d): %d; want %d", a, b, got, earlier)
	}
}

func checkLag(t *testing.T, v, min uint64) {
	t.Helper()
	if got, want := Lag(v, min), wantLag(v, min); signed(got).Cmp(want) != 0 {
		t.Fatalf("Lag(%d, %d): %d; want %v", v, min, got, want)
	}
}

func checkAt(t *testing.T, min uint64, lag int) {
	t.Helper()
	want := round(new(big.Int).Add(unsigned(min), signed(lag)))
	if got := At(min, lag); got != want {
		t.Fatalf("At(%d, %d): %d; want %d", min, lag, got, want)
	}
}

func checkClamp(t *testing.T, n, least, most int) {
	t.Helper()
	want := n
	if n < least {
		want = least
	} else if n > most {
		want = most
	}
	if got := Clamp(n, least, most); got != want {
		t.Fatalf("Clamp(%d, %d, %d): %d; want %d", n, least, most, got, want)
	}
}

func checkStep(t *testing.T, v, min uint64, d int) {
	t.Helper()
	if got, want := Step(v, min, d), wantStep(v, min, d); got != want {
		t.Fatalf("Step(%d, %d, %d): %d; want %d", v, min, d, got, want)
	}
}

// C1: the same times, times across 2^64, times just 2^63 apart (neither is before the other one) and one less.
func TestBefore(t *testing.T) {
	for _, x := range []struct {
		a, b uint64
		want bool
	}{
		{3, 9, true}, {9, 3, false},
		{0, 0, false}, {5, 5, false}, {1 << 63, 1 << 63, false}, {top, top, false},
		{0, 1, true}, {1, 0, false},
		{top, 0, true}, {0, top, false},
		{top, 1, true}, {1, top, false},
		{0, 1<<63 - 1, true}, {1<<63 - 1, 0, false},
		{0, 1 << 63, false}, {1 << 63, 0, false},
		{0, 1<<63 + 1, false}, {1<<63 + 1, 0, true},
		{5, 1<<63 + 4, true}, {5, 1<<63 + 5, false}, {1<<63 + 5, 5, false}, {5, 1<<63 + 6, false},
		{top, 1<<63 - 2, true}, {top, 1<<63 - 1, false}, {1<<63 - 1, top, false},
	} {
		if got := Before(x.a, x.b); got != x.want {
			t.Errorf("Before(%d, %d): %v; want %v", x.a, x.b, got, x.want)
		}
	}
}

// C1: of two the later and the earlier one; the first one, where neither is before the other one.
func TestLaterEarlier(t *testing.T) {
	for _, x := range []struct{ a, b, later, earlier uint64 }{
		{3, 9, 9, 3}, {9, 3, 9, 3},
		{5, 5, 5, 5},
		{top, 1, 1, top}, {1, top, 1, top},
		{0, 1<<63 - 1, 1<<63 - 1, 0}, {1<<63 - 1, 0, 1<<63 - 1, 0},
		{0, 1 << 63, 0, 0}, {1 << 63, 0, 1 << 63, 1 << 63},
		{7, 1<<63 + 7, 7, 7}, {1<<63 + 7, 7, 1<<63 + 7, 1<<63 + 7},
		{0, 1<<63 + 1, 0, 1<<63 + 1}, {1<<63 + 1, 0, 0, 1<<63 + 1},
	} {
		if got := Later(x.a, x.b); got != x.later {
			t.Errorf("Later(%d, %d): %d; want %d", x.a, x.b, got, x.later)
		}
		if got := Earlier(x.a, x.b); got != x.earlier {
			t.Errorf("Earlier(%d, %d): %d; want %d", x.a, x.b, got, x.earlier)
		}
	}
}

// C1, C2: at all pairs of times.
func TestPairs(t *testing.T) {
	for _, a := range times() {
		for _, b := range times() {
			checkOrder(t, a, b)
			checkLag(t, a, b)
		}
	}
}

// C2: lags from -2^63 to 2^63 - 1, also across 2^64.
func TestLag(t *testing.T) {
	for _, x := range []struct {
		v, min uint64
		want   int
	}{
		{9, 3, 6}, {3, 9, -6}, {5, 5, 0}, {top, top, 0},
		{1, top, 2}, {top, 1, -2}, {0, top, 1}, {top, 0, -1},
		{1<<63 - 1, 0, 1<<63 - 1}, {1 << 63, 0, -1 << 63}, {1<<63 + 1, 0, -1<<63 + 1},
		{0, 1 << 63, -1 << 63}, {0, 1<<63 + 1, 1<<63 - 1}, {0, 1<<63 - 1, -1<<63 + 1},
		{1<<63 + 4, 5, 1<<63 - 1}, {1<<63 + 5, 5, -1 << 63},
		{1<<63 - 2, top, 1<<63 - 1}, {1<<63 - 1, top, -1 << 63},
	} {
		if got := Lag(x.v, x.min); got != x.want {
			t.Errorf("Lag(%d, %d): %d; want %d", x.v, x.min, got, x.want)
		}
	}
}

// C2: a least time and a lag, of -2^63 and of 2^63 - 1 too.
func TestAt(t *testing.T) {
	for _, x := range []struct {
		min  uint64
		lag  int
		want uint64
	}{
		{3, 6, 9}, {9, -6, 3}, {5, 0, 5},
		{top, 2, 1}, {1, -2, top}, {top, 1, 0}, {0, -1, top},
		{0, math.MinInt, 1 << 63}, {0, math.MaxInt, 1<<63 - 1},
		{1 << 63, math.MinInt, 0}, {1 << 63, math.MaxInt, top},
		{top, math.MinInt, 1<<63 - 1}, {top, math.MaxInt, 1<<63 - 2},
	} {
		if got := At(x.min, x.lag); got != x.want {
			t.Errorf("At(%d, %d): %d; want %d", x.min, x.lag, got, x.want)
		}
	}
	for _, min := range times() {
		for _, lag := range numbers() {
			checkAt(t, min, lag)
		}
	}
}

// C3: below, between, above, at both bounds; least goes first, where it is above most.
func TestClamp(t *testing.T) {
	for _, x := range []struct{ n, least, most, want int }{
		{5, 1, 3, 3}, {0, 1, 3, 1}, {2, 1, 3, 2}, {1, 1, 3, 1}, {3, 1, 3, 3}, {4, 1, 3, 3},
		{-2, -5, -3, -3}, {-9, -5, -3, -5}, {7, 7, 7, 7}, {6, 7, 7, 7}, {8, 7, 7, 7},
		{2, 5, 3, 5}, {3, 5, 3, 5}, {4, 5, 3, 5}, // least above most: below least
		{5, 5, 3, 3}, {6, 5, 3, 3}, // and not below it
		{math.MinInt, math.MinInt, math.MaxInt, math.MinInt}, {math.MaxInt, math.MinInt, math.MaxInt, math.MaxInt},
		{0, math.MaxInt, math.MinInt, math.MaxInt}, {math.MaxInt, math.MaxInt, math.MinInt, math.MinInt},
		{math.MinInt, -1, 1, -1}, {math.MaxInt, -1, 1, 1},
	} {
		if got := Clamp(x.n, x.least, x.most); got != x.want {
			t.Errorf("Clamp(%d, %d, %d): %d; want %d", x.n, x.least, x.most, got, x.want)
		}
	}
	l := numbers()
	for _, n := range l {
		for _, least := range l {
			for _, most := range l {
				checkClamp(t, n, least, most)
			}
		}
	}
}

// C4: d below 1, a lag just below, at and above MaxLag, a step just to it and over it, a lag and d that go beyond 2^63 - 1 together.
func TestStep(t *testing.T) {
	if api.MaxLag != maxLag {
		t.Fatal(api.MaxLag)
	}
	for _, x := range []struct {
		v, min uint64
		d      int
		want   uint64
	}{
		{7, 5, 3, 10}, {5, 7, 1, 6}, {5, 7, 9, 14}, {5, 5, 1, 6},
		{7, 5, 0, 7}, {7, 5, -1, 7}, {7, 5, math.MinInt, 7}, {1 << 63, 0, 0, 1 << 63},
		{top, 5, 10, 9}, {top, top, 1, 0}, {0, top, 2, 2},
		{5 + maxLag - 2, 5, 1, 5 + maxLag - 1}, {5 + maxLag - 2, 5, 2, 5 + maxLag}, {5 + maxLag - 2, 5, 3, 5 + maxLag},
		{5 + maxLag - 1, 5, 1, 5 + maxLag}, {5 + maxLag - 1, 5, 2, 5 + maxLag}, {5 + maxLag - 1, 5, math.MaxInt, 5 + maxLag},
		{5 + maxLag, 5, 1, 5 + maxLag}, {5 + maxLag, 5, math.MaxInt, 5 + maxLag}, {5 + maxLag, 5, -1, 5 + maxLag},
		{6 + maxLag, 5, 1, 6 + maxLag}, {6 + maxLag, 5, -1, 6 + maxLag}, {1<<63 + 4, 5, math.MaxInt, 1<<63 + 4},
		{5, 5, maxLag - 1, 5 + maxLag - 1}, {5, 5, maxLag, 5 + maxLag}, {5, 5, maxLag + 1, 5 + maxLag},
		{6, 5, math.MaxInt, 5 + maxLag}, {5, 5, math.MaxInt, 5 + maxLag}, {4, 5, math.MaxInt, 5 + maxLag}, // together 2^63, and one and two less
		{1 << 63, 0, math.MaxInt, top}, {1 << 63, 0, 1, 1<<63 + 1}, {1<<63 + maxLag, 0, math.MaxInt, maxLag - 1},
		{1<<63 + maxLag + 1, 0, math.MaxInt, maxLag}, {1<<63 + maxLag + 2, 0, math.MaxInt, maxLag},
		{top - 3, top, maxLag + 3, maxLag - 1}, {top - 3, top, maxLag + 2, maxLag - 2}, {top - 3, top, maxLag + 4, maxLag - 1},
	} {
		if got := Step(x.v, x.min, x.d); got != x.want {
			t.Errorf("Step(%d, %d, %d): %d; want %d", x.v, x.min, x.d, got, x.want)
		}
	}
	for _, min := range times() {
		for _, lag := range numbers() {
			for _, d := range steps() {
				checkStep(t, min+uint64(lag), min, d)
			}
		}
	}
}

func checkUndone(t *testing.T, v, min uint64, lag int) {
	t.Helper()
	if got := At(min, Lag(v, min)); got != v {
		t.Fatalf("At(%d, Lag(%d, %d)): %d", min, v, min, got)
	}
	if got := Lag(At(min, lag), min); got != lag {
		t.Fatalf("Lag(At(%d, %d), %d): %d", min, lag, min, got)
	}
}

func checkTurned(t *testing.T, a, b, more uint64, lag int) {
	t.Helper()
	if Before(a+more, b+more) != Before(a, b) {
		t.Fatalf("Before(%d, %d) is another one with %d more", a, b, more)
	}
	if Later(a+more, b+more) != Later(a, b)+more || Earlier(a+more, b+more) != Earlier(a, b)+more {
		t.Fatalf("Later or Earlier(%d, %d) is another one with %d more", a, b, more)
	}
	if Lag(a+more, b+more) != Lag(a, b) {
		t.Fatalf("Lag(%d, %d) is another one with %d more", a, b, more)
	}
	if At(a+more, lag) != At(a, lag)+more {
		t.Fatalf("At(%d, %d) is another one with %d more", a, lag, more)
	}
	if Step(a+more, b+more, lag) != Step(a, b, lag)+more {
		t.Fatalf("Step(%d, %d, %d) is another one with %d more", a, b, lag, more)
	}
}

// checkLagsOrder holds Before against the lags, which are from -2^62 to below 2^62.
func checkLagsOrder(t *testing.T, min uint64, a, b int) {
	t.Helper()
	if got := Before(At(min, a), At(min, b)); got != (a < b) {
		t.Fatalf("by %d: Before of lags %d and %d: %v", min, a, b, got)
	}
}

func checkForward(t *testing.T, v, min uint64, d int) {
	t.Helper()
	to := Step(v, min, d)
	if to != v && !Before(v, to) || Lag(to, min) < Lag(v, min) {
		t.Fatalf("Step(%d, %d, %d): back to %d", v, min, d, to)
	}
	if to != v && Lag(to, min) > maxLag {
		t.Fatalf("Step(%d, %d, %d): to %d, beyond MaxLag", v, min, d, to)
	}
}

// C5: At undoes Lag, and Lag At; whatever is added to all times, nothing else changes.
func TestTheoremOfTurning(t *testing.T) {
	for _, a := range times() {
		for _, b := range times() {
			for _, lag := range numbers() {
				checkUndone(t, a, b, lag)
			}
			for _, more := range times() {
				for _, d := range steps() {
					checkTurned(t, a, b, more, d)
				}
			}
		}
	}
}

// C5: Before is the order of lags from -2^62 to below 2^62: the farthest ones of these, and no farther.
func TestTheoremOfOrder(t *testing.T) {
	near := slices.DeleteFunc(append(numbers(), -1<<62, -1<<62+1, 1<<62-1), func(lag int) bool { return lag < -1<<62 || lag >= 1<<62 })
	for _, min := range times() {
		for _, a := range near {
			for _, b := range near {
				checkLagsOrder(t, min, a, b)
			}
		}
		if Before(At(min, -1<<62), At(min, 1<<62)) {
			t.Fatalf("by %d: times that are 2^63 apart have an order", min)
		}
	}
}

// C5: no step goes back, or beyond MaxLag.
func TestTheoremOfSteps(t *testing.T) {
	for _, min := range times() {
		for _, lag := range numbers() {
			for _, d := range steps() {
				checkForward(t, At(min, lag), min, d)
			}
		}
	}
}

// The generic function tells what is between two of any kind that has an order.
func TestWithin(t *testing.T) {
	if within(top, 1, 9) != 9 || within(uint64(0), 1, 9) != 1 || within(uint64(4), 1, 9) != 4 {
		t.Error("of uint64")
	}
	if within(-4, -3, 9) != -3 || within(10, -3, 9) != 9 || within(9, -3, 9) != 9 || within(-3, -3, 9) != -3 {
		t.Error("of int")
	}
	for _, n := range numbers() { // told itself just when it is between, also where least is above most
		if (within(n, 5, 3) == n) || (within(n, 3, 5) == n) != (n >= 3 && n <= 5) {
			t.Error(n)
		}
	}
}

// FuzzTurn holds all promises against math/big, at whatever numbers.
func FuzzTurn(f *testing.F) {
	f.Add(top, uint64(1), uint64(7), 2, 5)
	f.Add(uint64(1<<63), uint64(0), top, math.MaxInt, math.MinInt)
	f.Add(uint64(5+maxLag-1), uint64(5), uint64(0), 1, -1)
	f.Fuzz(func(t *testing.T, a, b, c uint64, n, m int) {
		checkOrder(t, a, b)
		checkLag(t, a, b)
		checkAt(t, a, n)
		checkClamp(t, n, m, Lag(a, b))
		checkStep(t, a, b, n)
		checkUndone(t, a, b, n)
		checkTurned(t, a, b, c, n)
		checkLagsOrder(t, c, n>>1, m>>1) // half of a lag is from -2^62 to below 2^62
		checkForward(t, a, b, n)
	})
}
