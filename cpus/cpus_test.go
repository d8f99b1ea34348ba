package cpus

import (
	"fmt"
	"regexp"
	"slices"
	"strings"
	"testing"

	"turnspit/api"
)

const top uint64 = 1<<64 - 1

// right is the form of a mask's text, but for which of two numbers is above the other one.
var right = regexp.MustCompile(strings.ReplaceAll(`^(-|N(-N)?(,N(-N)?)*)\z`, "N", `(0|[1-9]|[1-5][0-9]|6[0-3])`))

// masks are those without CPUs, with one each, with all but one, with each range of CPUs, and ones of no special form.
func masks() []uint64 {
	l := []uint64{0, top, 11, 9, 6, 5 << 60, 1<<63 | 1, 0x5555555555555555, 0xaaaaaaaaaaaaaaaa, 0xcccccccccccccccc, 0x9999999999999999, 0xffffffff00000000}
	for c := range 64 {
		l = append(l, top-1<<c)
		for n := 1; c+n <= 64; n++ {
			l = append(l, wantMask(c, c+n-1))
		}
	}
	n := uint64(1)
	for range 64 { // a fixed sequence, thick and thin
		n = n*6364136223846793005 + 1442695040888963407
		l = append(l, n, n&(n>>7)&(n>>19), n|n>>11|n<<13)
	}
	slices.Sort(l)
	return slices.Compact(l)
}

// wantMask tells the mask of the CPUs from first to last, one by one.
func wantMask(first, last int) uint64 {
	var m uint64
	for c := first; c <= last; c++ {
		m |= 1 << c
	}
	return m
}

// wantText tells E1's text of m, from its bits written out, the least one first.
func wantText(m uint64) string {
	digits := []byte(fmt.Sprintf("%064b", m))
	slices.Reverse(digits)
	var runs []string
	for _, at := range regexp.MustCompile("1+").FindAllIndex(digits, -1) {
		if at[1]-at[0] == 1 {
			runs = append(runs, fmt.Sprint(at[0]))
		} else {
			runs = append(runs, fmt.Sprintf("%d-%d", at[0], at[1]-1))
		}
	}
	if len(runs) == 0 {
		return "-"
	}
	return strings.Join(runs, ",")
}

// wantParse tells what E2 asks of s.
func wantParse(s string) (uint64, api.Errno) {
	switch {
	case len(s) > 1000:
		return 0, api.ErrLong
	case !right.MatchString(s):
		return 0, api.ErrText
	case s == "-":
		return 0, api.OK
	}
	var m uint64
	for _, item := range strings.Split(s, ",") {
		var first, last int
		if n, _ := fmt.Sscanf(item, "%d-%d", &first, &last); n == 1 {
			last = first
		}
		if first > last {
			return 0, api.ErrText
		}
		m |= wantMask(first, last)
	}
	return m, api.OK
}

// checkPrint holds E1 at m, and E4: Parse undoes Print, and Print tells what is its own Canon.
func checkPrint(t *testing.T, m uint64) {
	t.Helper()
	s := Print(m)
	if s != wantText(m) {
		t.Fatalf("Print(%#x): %q, not %q", m, s, wantText(m))
	}
	if back, errno := Parse(s); back != m || errno != api.OK {
		t.Fatalf("Parse(Print(%#x)): %#x, %d", m, back, errno)
	}
	if canon, errno := Canon(s); canon != s || errno != api.OK {
		t.Fatalf("Canon(%q): %q, %d", s, canon, errno)
	}
}

// checkText holds E2 and E3 at s, and E4: what Canon tells is its own Canon.
func checkText(t *testing.T, s string) {
	t.Helper()
	want, fault := wantParse(s)
	if m, errno := Parse(s); m != want || errno != fault {
		t.Fatalf("Parse(%q): %#x, %d, not %#x, %d", s, m, errno, want, fault)
	}
	text := ""
	if fault == api.OK {
		text = wantText(want)
	}
	canon, errno := Canon(s)
	if canon != text || errno != fault {
		t.Fatalf("Canon(%q): %q, %d, not %q, %d", s, canon, errno, text, fault)
	}
	if fault != api.OK {
		return
	}
	if again, errno := Canon(canon); again != canon || errno != api.OK {
		t.Fatalf("Canon(%q): %q, %d", canon, again, errno)
	}
}

// checkBoth holds E4 at the texts a and b: of two masks with CPUs they are, with a comma between, that of both.
func checkBoth(t *testing.T, a, b string) {
	t.Helper()
	s := a + "," + b
	m, errno := Parse(s)
	one, fault := Parse(a)
	other, also := Parse(b)
	if len(s) > 1000 || fault != api.OK || also != api.OK || a == "-" || b == "-" {
		if m != 0 || errno == api.OK {
			t.Fatalf("Parse(%q): %#x, %d", s, m, errno)
		}
		return
	}
	if m != one|other || errno != api.OK {
		t.Fatalf("Parse(%q): %#x, %d, not %#x", s, m, errno, one|other)
	}
}

// The chapter's examples.
func TestExamples(t *testing.T) {
	if s := Print(11); s != "0-1,3" {
		t.Error(s)
	}
	if m, errno := Parse("3,0-1,1"); m != 11 || errno != api.OK {
		t.Error(m, errno)
	}
	if m, errno := Parse("01"); m != 0 || errno != api.ErrText {
		t.Error(m, errno)
	}
}

// E1: no CPU, runs of one, of two, of more and of all, at both ends and between.
func TestPrint(t *testing.T) {
	for _, x := range []struct {
		m uint64
		s string
	}{
		{0, "-"}, {1, "0"}, {2, "1"}, {1 << 63, "63"}, {3, "0-1"}, {3 << 62, "62-63"}, {7, "0-2"}, {top, "0-63"},
		{1<<63 | 1, "0,63"}, {5, "0,2"}, {11, "0-1,3"}, {13, "0,2-3"}, {top - 1, "1-63"}, {top >> 1, "0-62"},
		{top - 1<<31, "0-30,32-63"}, {1<<9 | 1<<10 | 1<<12, "9-10,12"}, {3<<62 | 3, "0-1,62-63"},
	} {
		if s := Print(x.m); s != x.s {
			t.Errorf("Print(%#x): %q, not %q", x.m, s, x.s)
		}
	}
	for _, m := range masks() {
		checkPrint(t, m)
	}
	if s := Print(0x5555555555555555); strings.Count(s, ",") != 31 { // the most runs that a mask may have
		t.Error(s)
	}
}

// E2: the texts that are right, in whatever order and form their items are.
func TestParse(t *testing.T) {
	for _, x := range []struct {
		s string
		m uint64
	}{
		{"-", 0}, {"0", 1}, {"63", 1 << 63}, {"9", 1 << 9}, {"10", 1 << 10}, {"0-0", 1}, {"63-63", 1 << 63}, {"5-5", 32},
		{"0-1", 3}, {"0-63", top}, {"62-63", 3 << 62}, {"9-10", 3 << 9}, {"0,63", 1<<63 | 1}, {"63,0", 1<<63 | 1},
		{"3,0-1,1", 11}, {"1,1,1", 2}, {"0-5,3-8", 511}, {"3-8,0-5", 511}, {"0-8,2", 511}, {"2,0-8", 511}, {"1,2,0", 7}, {"0-63,0-63,7", top},
	} {
		if m, errno := Parse(x.s); m != x.m || errno != api.OK {
			t.Errorf("Parse(%q): %#x, %d, not %#x", x.s, m, errno, x.m)
		}
		checkText(t, x.s)
	}
}

// E2: what is no text of a mask; with the error nothing else is told, whatever was read ahead of it.
func TestParseWrong(t *testing.T) {
	for _, s := range []string{
		"", " ", "--", "-,", ",-", "-,-", "-,1", "1,-", "1-2,-", "-,1-2", "---", "-1", "1-", "-1-2", "1--2", "1-2-", "0-1-2", "1-2-3", "1-1-1", "2-2-2,1",
		"00", "01", "063", "0-01", "00-1", "1-01", "01-1", "000", "-0", "0,00", "5,07",
		"64", "65", "99", "100", "0-64", "64-64", "64-63", "0,64", "256", "1000",
		"4294967296", "9223372036854775807", "9223372036854775808", "18446744073709551615", "18446744073709551616", "18446744073709551617", "0-18446744073709551616", "340282366920938463463374607431768211456",
		strings.Repeat("9", 999), strings.Repeat("0", 1000), "0-" + strings.Repeat("1", 998),
		"1-0", "3-1", "63-0", "10-9", "9-1,1-9", "1-9,9-1", "63-62",
		",", ",,", ",1", "1,", "1,,2", ",1,2", "1,2,", "1,2,,", ",,1", "0-1,", ",0-1",
		"+1", "1-+2", "0x1", "0b1", "0o7", "1_0", "1e1", "1.0", "1.", ".1", "a", "A", "1a", "a1", "1;2", "1 ", " 1", "1, 2", "1 ,2", "1- 2", "1 -2", "\t1", "1\n", "1,2\n", "-\n", "\n-", "1\r", "\x001", "1\x00", "\x00", "1,\x00", "1\xff", "\xff", "1\u20132", "\u22121", "\u0661", "\uff11", "1\uff0c2", "0-63\u00a0", "*", "all",
	} {
		for _, text := range []string{s, "5," + s, "0-63," + s, s + ",5"} {
			want := api.ErrText
			if len(text) > 1000 {
				want = api.ErrLong
			}
			if m, errno := Parse(text); m != 0 || errno != want {
				t.Errorf("Parse(%q): %#x, %d, not %d", text, m, errno, want)
			}
			checkText(t, text)
		}
	}
}

// E2: texts of 1000 bytes are read, those of 1001 are not, whatever they are; what counts are bytes, not runes.
func TestParseLong(t *testing.T) {
	full := strings.Repeat("10,", 333) + "1"
	items := strings.Repeat("0-1,", 250)
	for _, x := range []struct {
		s     string
		m     uint64
		errno api.Errno
	}{
		{full, 1<<10 | 2, api.OK}, {full[:999], 0, api.ErrText}, {full[:998], 1 << 10, api.OK}, {full + "0", 0, api.ErrLong}, {full + ",", 0, api.ErrLong},
		{items[:999], 3, api.OK}, {items, 0, api.ErrText}, {items[:999] + "0", 1<<11 - 1, api.OK}, {items + "1", 0, api.ErrLong}, {items[:999] + "9", 1<<20 - 1, api.OK},
		{full[:997] + "77", 0, api.ErrText}, {full[:999] + "a", 0, api.ErrText}, {full[:999] + "-", 0, api.ErrText}, {full[:999] + "-1", 0, api.ErrLong},
		{strings.Repeat("-", 1000), 0, api.ErrText}, {strings.Repeat("-", 1001), 0, api.ErrLong}, {strings.Repeat(",", 1000), 0, api.ErrText}, {strings.Repeat(",", 1001), 0, api.ErrLong},
		{strings.Repeat("1", 1000), 0, api.ErrText}, {strings.Repeat("1", 1001), 0, api.ErrLong}, {strings.Repeat("é", 500), 0, api.ErrText}, {strings.Repeat("é", 501), 0, api.ErrLong},
		{strings.Repeat("1,", 1<<16) + "1", 0, api.ErrLong},
	} {
		if m, errno := Parse(x.s); m != x.m || errno != x.errno {
			t.Errorf("Parse(%q), %d bytes: %#x, %d, not %#x, %d", x.s, len(x.s), m, errno, x.m, x.errno)
		}
		checkText(t, x.s)
	}
}

// E2: each text of one number, and each one of two, around the edges.
func TestParseNumbers(t *testing.T) {
	for a := range 130 {
		checkText(t, fmt.Sprint(a))
		checkText(t, fmt.Sprintf("0%d", a))
		checkText(t, fmt.Sprintf("+%d", a))
		checkText(t, fmt.Sprintf("-%d", a))
		for b := range 70 {
			checkText(t, fmt.Sprintf("%d-%d", a, b))
			checkText(t, fmt.Sprintf("%d,%d", a, b))
			checkText(t, fmt.Sprintf("%d-0%d", a, b))
		}
	}
}

// E2, E3: each short text of the signs that mean something, and of some that mean nothing.
func TestTexts(t *testing.T) {
	texts := []string{""}
	for range 6 {
		var longer []string
		for _, s := range texts {
			checkText(t, s)
			for _, sign := range []string{"0", "1", "3", "6", "-", ",", "+"} {
				longer = append(longer, s+sign)
			}
		}
		texts = longer
	}
	for _, s := range texts {
		checkText(t, s)
	}
	for b := range 256 { // each byte, at the beginning, at the end and between
		sign := string([]byte{byte(b)})
		for _, s := range []string{sign, sign + "1", "1" + sign, "1" + sign + "2", "1," + sign, sign + ",1", "1-" + sign, sign + "-1", "1," + sign + "2"} {
			checkText(t, s)
		}
	}
}

// E3: Canon is Print of what a text is, or Parse's error alone.
func TestCanon(t *testing.T) {
	for _, x := range []struct {
		s, canon string
		errno    api.Errno
	}{
		{"-", "-", api.OK}, {"3,0-1,1", "0-1,3", api.OK}, {"5-5", "5", api.OK}, {"1,0", "0-1", api.OK}, {"2,1,0,63,62", "0-2,62-63", api.OK}, {"0-31,32-63", "0-63", api.OK}, {"0-31,33-63", "0-31,33-63", api.OK},
		{"", "", api.ErrText}, {"1,", "", api.ErrText}, {"1,-", "", api.ErrText}, {"0,64", "", api.ErrText}, {strings.Repeat("1,", 500) + "1", "", api.ErrLong},
	} {
		if canon, errno := Canon(x.s); canon != x.canon || errno != x.errno {
			t.Errorf("Canon(%q): %q, %d, not %q, %d", x.s, canon, errno, x.canon, x.errno)
		}
	}
}

// E4: a text of two masks is that of both, whichever is ahead; of one without CPUs there is none beside another one. (That Parse undoes Print and that a Canon is its own, is held wherever a mask or a text is.)
func TestTheorem(t *testing.T) {
	l := masks()
	for i, a := range l {
		for k := 0; k < len(l); k += 37 {
			b := l[(i+k)%len(l)]
			checkBoth(t, Print(a), Print(b))
			checkBoth(t, Print(b), Print(a))
		}
		checkBoth(t, Print(a), "-")
		checkBoth(t, "-", Print(a))
		checkBoth(t, Print(a), Print(a)+","+Print(a))
	}
	checkBoth(t, strings.Repeat("10,", 300)+"1", strings.Repeat("12,", 32)+"6")
	checkBoth(t, strings.Repeat("10,", 300)+"1", strings.Repeat("12,", 32)+"60")
}

// FuzzCpus holds all promises against the words of the chapter, at whatever mask and texts.
func FuzzCpus(f *testing.F) {
	f.Add(uint64(11), "3,0-1,1", "-")
	f.Add(top, "0-63", "62-63,0")
	f.Add(uint64(1<<63), "01", "64,,")
	f.Fuzz(func(t *testing.T, m uint64, a, b string) {
		checkPrint(t, m)
		checkText(t, a)
		checkText(t, b)
		checkText(t, a+","+b)
		checkBoth(t, a, b)
		checkBoth(t, a, Print(m))
	})
}
