package wide

import (
	"math/big"
	"slices"
	"testing"
)

// samples are the edges of 64 bits and some ordinary numbers between them, so that triples of them meet every carry.
func samples() []uint64 {
	l := []uint64{0, 1, 2, 3, 4, 5, 7, 9, 10, 15, 1024, 88761, 1<<31 - 1, 1 << 31, 1<<32 - 1, 1 << 32, 1<<32 + 1,
		1<<48 + 5, 1<<63 - 1, 1 << 63, 1<<63 + 1, 0x5555555555555555, 0xaaaaaaaaaaaaaaaa, 1<<64 - 3, 1<<64 - 2, 1<<64 - 1}
	n := uint64(1)
	for range 24 { // a fixed sequence: numbers of no special form, of all sizes
		n = n*6364136223846793005 + 1442695040888963407
		l = append(l, n>>(n&63))
	}
	slices.Sort(l)
	return slices.Compact(l)
}

func number(high, low uint64) *big.Int {
	n := new(big.Int).SetUint64(high)
	n.Lsh(n, 64)
	return n.Or(n, new(big.Int).SetUint64(low))
}

func small(n uint64) *big.Int { return number(0, n) }

func power(n uint) *big.Int { return new(big.Int).Lsh(big.NewInt(1), n) }

func checkMul(t *testing.T, a, b uint64) {
	t.Helper()
	high, low := Mul(a, b)
	if want := new(big.Int).Mul(small(a), small(b)); number(high, low).Cmp(want) != 0 {
		t.Fatalf("Mul(%d, %d): %d, %d; want the halves of %v", a, b, high, low, want)
	}
}

func checkAdd(t *testing.T, high, low, more uint64) {
	t.Helper()
	h, l := Add(high, low, more)
	want := new(big.Int).Add(number(high, low), small(more))
	want.Mod(want, power(128))
	if number(h, l).Cmp(want) != 0 {
		t.Fatalf("Add(%d, %d, %d): %d, %d; want the halves of %v", high, low, more, h, l, want)
	}
}

func checkDiv(t *testing.T, high, low, by uint64) {
	t.Helper()
	times, rest, ok := Div(high, low, by)
	wantTimes, wantRest := new(big.Int), new(big.Int)
	wantOk := by != 0
	if wantOk {
		wantTimes.QuoRem(number(high, low), small(by), wantRest)
		wantOk = wantTimes.Cmp(power(64)) < 0
	}
	if !wantOk {
		wantTimes, wantRest = new(big.Int), new(big.Int)
	}
	if ok != wantOk || small(times).Cmp(wantTimes) != 0 || small(rest).Cmp(wantRest) != 0 {
		t.Fatalf("Div(%d, %d, %d): %d, %d, %v; want %v, %v, %v", high, low, by, times, rest, ok, wantTimes, wantRest, wantOk)
	}
}

func checkScale(t *testing.T, a, b, by uint64) {
	t.Helper()
	want := small(1<<64 - 1)
	if by != 0 {
		if n := new(big.Int).Mul(small(a), small(b)); n.Quo(n, small(by)).Cmp(want) < 0 {
			want = n
		}
	}
	if got := Scale(a, b, by); small(got).Cmp(want) != 0 {
		t.Fatalf("Scale(%d, %d, %d): %d; want %v", a, b, by, got, want)
	}
}

// A1: the product's halves, also where it goes beyond 64 bits.
func TestMul(t *testing.T) {
	for _, x := range []struct{ a, b, high, low uint64 }{
		{0, 0, 0, 0},
		{7, 6, 0, 42},
		{1 << 63, 4, 2, 0},
		{1 << 63, 2, 1, 0},
		{1 << 63, 1, 0, 1 << 63},
		{1<<32 - 1, 1<<32 + 1, 0, 1<<64 - 1},
		{1 << 32, 1 << 32, 1, 0},
		{1<<64 - 1, 1<<64 - 1, 1<<64 - 2, 1},
	} {
		if high, low := Mul(x.a, x.b); high != x.high || low != x.low {
			t.Errorf("Mul(%d, %d): %d, %d; want %d, %d", x.a, x.b, high, low, x.high, x.low)
		}
	}
	l := samples()
	for _, a := range l {
		for _, b := range l {
			checkMul(t, a, b)
		}
	}
}

// A1: the sum's halves, also where it goes round modulo 2^128.
func TestAdd(t *testing.T) {
	for _, x := range []struct{ high, low, more, wantHigh, wantLow uint64 }{
		{0, 0, 0, 0, 0},
		{3, 4, 5, 3, 9},
		{1, 1<<64 - 1, 2, 2, 1},
		{1, 1<<64 - 2, 1, 1, 1<<64 - 1},
		{1, 1<<64 - 1, 1<<64 - 1, 2, 1<<64 - 2},
		{1<<64 - 1, 1<<64 - 1, 0, 1<<64 - 1, 1<<64 - 1},
		{1<<64 - 1, 1<<64 - 1, 1, 0, 0},
		{1<<64 - 1, 1<<64 - 1, 1<<64 - 1, 0, 1<<64 - 2},
	} {
		if high, low := Add(x.high, x.low, x.more); high != x.wantHigh || low != x.wantLow {
			t.Errorf("Add(%d, %d, %d): %d, %d; want %d, %d", x.high, x.low, x.more, high, low, x.wantHigh, x.wantLow)
		}
	}
	l := samples()
	for _, high := range l {
		for _, low := range l {
			for _, more := range l {
				checkAdd(t, high, low, more)
			}
		}
	}
}

// A2: quotient and rest; nothing, if the divisor is 0, or the quotient is 2^64 or more.
func TestDiv(t *testing.T) {
	for _, x := range []struct {
		high, low, by, times, rest uint64
		ok                         bool
	}{
		{0, 17, 5, 3, 2, true},
		{0, 0, 1, 0, 0, true},
		{0, 4, 5, 0, 4, true},
		{2, 0, 4, 1 << 63, 0, true},
		{3, 1<<64 - 1, 4, 1<<64 - 1, 3, true}, // the last one ahead of a quotient of 2^64
		{4, 0, 4, 0, 0, false},                // that one
		{4, 9, 4, 0, 0, false},
		{5, 0, 4, 0, 0, false},
		{1, 0, 1, 0, 0, false},
		{0, 1<<64 - 1, 1, 1<<64 - 1, 0, true},
		{1<<64 - 2, 1, 1<<64 - 1, 1<<64 - 1, 0, true},
		{1<<64 - 2, 1<<64 - 1, 1<<64 - 1, 1<<64 - 1, 1<<64 - 2, true}, // twice what is left over needs 65 bits
		{1<<64 - 1, 0, 1<<64 - 1, 0, 0, false},
		{0, 0, 0, 0, 0, false},
		{0, 9, 0, 0, 0, false},
		{1<<64 - 1, 1<<64 - 1, 0, 0, 0, false},
	} {
		if times, rest, ok := Div(x.high, x.low, x.by); times != x.times || rest != x.rest || ok != x.ok {
			t.Errorf("Div(%d, %d, %d): %d, %d, %v; want %d, %d, %v", x.high, x.low, x.by, times, rest, ok, x.times, x.rest, x.ok)
		}
	}
	l := samples()
	for _, high := range l {
		for _, low := range l {
			for _, by := range l {
				checkDiv(t, high, low, by)
			}
		}
	}
}

// A3: rounded down; 2^64 - 1, if it is more, or the divisor is 0.
func TestScale(t *testing.T) {
	for _, x := range []struct{ a, b, by, want uint64 }{
		{10, 3, 4, 7},
		{0, 5, 3, 0},
		{1 << 63, 4, 8, 1 << 62}, // the product goes beyond 64 bits, the quotient does not
		{1<<64 - 1, 1<<64 - 1, 1<<64 - 1, 1<<64 - 1},
		{1<<64 - 2, 7, 7, 1<<64 - 2},
		{1 << 63, 2, 1, 1<<64 - 1},
		{1 << 63, 4, 2, 1<<64 - 1},
		{1, 1, 0, 1<<64 - 1},
		{0, 0, 0, 1<<64 - 1},
	} {
		if got := Scale(x.a, x.b, x.by); got != x.want {
			t.Errorf("Scale(%d, %d, %d): %d; want %d", x.a, x.b, x.by, got, x.want)
		}
	}
	l := samples()
	for _, a := range l {
		for _, b := range l {
			for _, by := range l {
				checkScale(t, a, b, by)
			}
		}
	}
}

func checkTurned(t *testing.T, a, b, by uint64) {
	t.Helper()
	high, low := Mul(a, b)
	if h, l := Mul(b, a); h != high || l != low {
		t.Fatalf("Mul(%d, %d): %d, %d; turned: %d, %d", a, b, high, low, h, l)
	}
	if n, m := Scale(a, b, by), Scale(b, a, by); n != m {
		t.Fatalf("Scale(%d, %d, %d): %d; turned: %d", a, b, by, n, m)
	}
}

func checkUndone(t *testing.T, high, low, by uint64) {
	t.Helper()
	times, rest, ok := Div(high, low, by)
	if !ok {
		return
	}
	h, l := Mul(times, by)
	h, l = Add(h, l, rest)
	if h != high || l != low || rest >= by {
		t.Fatalf("Div(%d, %d, %d): %d, %d; back: %d, %d", high, low, by, times, rest, h, l)
	}
}

func checkGrows(t *testing.T, a, more, b, by uint64) {
	t.Helper()
	if n, m := Scale(min(a, more), b, by), Scale(max(a, more), b, by); n > m {
		t.Fatalf("Scale of %d and of %d, times %d, by %d: %d, %d", min(a, more), max(a, more), b, by, n, m)
	}
	if n, m := Scale(b, min(a, more), by), Scale(b, max(a, more), by); n > m {
		t.Fatalf("Scale of %d times %d and %d, by %d: %d, %d", b, min(a, more), max(a, more), by, n, m)
	}
}

// A4: factors turned; quotient times divisor, and the rest, is the number; Scale of more is no less.
func TestTheorem(t *testing.T) {
	l := samples()
	for i, a := range l {
		for _, b := range l {
			for _, by := range l {
				checkTurned(t, a, b, by)
				checkUndone(t, a, b, by)
				checkGrows(t, a, l[min(i+1, len(l)-1)], b, by)
			}
		}
	}
}

// FuzzWide holds all promises against math/big, at whatever numbers.
func FuzzWide(f *testing.F) {
	f.Add(uint64(1<<63), uint64(4), uint64(2), uint64(3))
	f.Add(uint64(1<<64-2), uint64(1<<64-1), uint64(1<<64-1), uint64(0))
	f.Add(uint64(0), uint64(17), uint64(0), uint64(5))
	f.Fuzz(func(t *testing.T, a, b, c, d uint64) {
		checkMul(t, a, b)
		checkAdd(t, a, b, c)
		checkDiv(t, a, b, c)
		checkScale(t, a, b, c)
		checkTurned(t, a, b, c)
		checkUndone(t, a, b, c)
		checkGrows(t, a, d, b, c)
	})
}

func TestBitsDown(t *testing.T) {
	bits := bitsDown(1<<63 | 6)
	for range 2 { // it may be gone through again
		var got uint64
		n := 0
		for bit := range bits {
			got = got<<1 | bit
			n++
		}
		if got != 1<<63|6 || n != 64 {
			t.Fatalf("%d bits: %d", n, got)
		}
	}
	n := 0
	for bit := range bits {
		n++
		if bit == 0 {
			break
		}
	}
	if n != 2 {
		t.Fatalf("left at the first 0: behind %d bits", n)
	}
}
