package calls

import (
	"math"
	"strings"
	"testing"

	"turnspit/api"
)

const (
	least    = math.MinInt
	greatest = math.MaxInt
	top      = 1000000000000 // the greatest number that is told
)

const every uint64 = 1<<64 - 1

// numbers are those at the edges, that are told or not.
func numbers() []int {
	return []int{least, least + 1, -top - 1, -top, -1001, -1000, -2, -1, 0, 1, 9, 10, 11, 63, 64, 99, 100, 999, 1000, 1001, 1 << 32, top - 1, top, top + 1, 10 * top, 1 << 62, greatest - 1, greatest}
}

// nices are those at the edges, that are told or not.
func nices() []int {
	return []int{least, -1 << 32, -10000, -1002, -1001, -1000, -999, -20, -10, -9, -1, 0, 1, 9, 10, 19, 999, 1000, 1001, 1002, 10000, top, greatest}
}

// masks are one of none, of one, of all, of runs, and of each second one, whose text is long.
func masks() []uint64 {
	return []uint64{0, 1, 2, 1 << 63, every, every - 1, every >> 1, 11, 0x5555555555555555, 0xaaaaaaaaaaaaaaaa, 0x6db6db6db6db6db6, 0xdbdbdbdbdbdbdbdb}
}

// ops are those of calls, and some of none.
func ops() []int {
	return []int{least, least + 1, -14, -13, -2, -1, 0, 1, 2, 3, 4, 5, 6, 7, 8, 9, 10, 11, 12, 13, 14, 15, 16, 1 << 32, 1<<32 + 1, 1 << 62, greatest - 1, greatest}
}

// draw tells a row of numbers that looks like chance, and is the same each time.
func draw(seed uint64) func() uint64 {
	x := seed
	return func() uint64 {
		x += 0x9e3779b97f4a7c15
		z := x
		z = (z ^ z>>30) * 0xbf58476d1ce4e5b9
		z = (z ^ z>>27) * 0x94d049bb133111eb
		return z ^ z>>31
	}
}

// checkPrint holds Q1 at c, twice, and Q5: what Print tells is parsed as c.
func checkPrint(t *testing.T, c api.Call) {
	t.Helper()
	want := wantPrint(c)
	for range 2 {
		s, errno := Print(c)
		if got := (toldText{s, errno}); got != want {
			t.Fatalf("Print(%v): %v; want %v", c, got, want)
		}
	}
	if want.errno != api.OK {
		return
	}
	if back, errno := Parse(want.s); back != c || errno != api.OK {
		t.Fatalf("Parse(Print(%v)): %v, %d", c, back, errno)
	}
}

// checkParse holds Q2 at s, twice, and Q5: what is parsed, is printed as a text that is parsed as the same; as s itself, if it has no mask.
func checkParse(t *testing.T, s string) {
	t.Helper()
	want := wantParse(s)
	for range 2 {
		c, errno := Parse(s)
		if got := (toldCall{c, errno}); got != want {
			t.Fatalf("Parse(%q): %v; want %v", s, got, want)
		}
	}
	if want.errno != api.OK {
		return
	}
	text, errno := Print(want.c)
	if errno != api.OK {
		t.Fatalf("Print(Parse(%q)): %d", s, errno)
	}
	if again, errno := Parse(text); again != want.c || errno != api.OK {
		t.Fatalf("Parse(Print(Parse(%q))): %v, %d", s, again, errno)
	}
	if text != s && !strings.Contains(forms[want.c.Op-1], "MASK") {
		t.Fatalf("Print(Parse(%q)): %q", s, text)
	}
}

// checkSay holds Q3 at a, twice, and Q5: what Say tells is heard as a.
func checkSay(t *testing.T, a api.Answer) {
	t.Helper()
	want := wantSay(a)
	for range 2 {
		s, errno := Say(a)
		if got := (toldText{s, errno}); got != want {
			t.Fatalf("Say(%v): %v; want %v", a, got, want)
		}
	}
	if want.errno != api.OK {
		return
	}
	if back, errno := Hear(want.s); back != a || errno != api.OK {
		t.Fatalf("Hear(Say(%v)): %v, %d", a, back, errno)
	}
}

// checkHear holds Q4 at s, twice, and Q5: nothing is heard but what Say tells.
func checkHear(t *testing.T, s string) {
	t.Helper()
	want := wantHear(s)
	for range 2 {
		a, errno := Hear(s)
		if got := (toldAnswer{a, errno}); got != want {
			t.Fatalf("Hear(%q): %v; want %v", s, got, want)
		}
	}
	if want.errno != api.OK {
		return
	}
	if text, errno := Say(want.a); text != s || errno != api.OK {
		t.Fatalf("Say(Hear(%q)): %q, %d", s, text, errno)
	}
}

// checkText holds Q2 and Q4 at s.
func checkText(t *testing.T, s string) {
	t.Helper()
	checkParse(t, s)
	checkHear(t, s)
}
