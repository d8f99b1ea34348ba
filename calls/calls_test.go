package calls

import (
	"fmt"
	"strings"
	"testing"

	"turnspit/api"
)

// pair is a call and its text.
type pair struct {
	s string
	c api.Call
}

// pairs are of each Op some calls, with their texts.
func pairs() []pair {
	h := api.Handle{Slot: 3, Gen: 12}
	last := api.Handle{Slot: top, Gen: top}
	return []pair{
		{"create 0 -", api.Call{Op: api.OpCreate}},
		{"create 5 0", api.Call{Op: api.OpCreate, Nice: 5, Mask: 1}},
		{"create -1 0-63", api.Call{Op: api.OpCreate, Nice: -1, Mask: every}},
		{"create -1000 63", api.Call{Op: api.OpCreate, Nice: -1000, Mask: 1 << 63}},
		{"create 1000 0-1,3", api.Call{Op: api.OpCreate, Nice: 1000, Mask: 11}},
		{"exit 0.0", api.Call{Op: api.OpExit}},
		{"exit 3.12", api.Call{Op: api.OpExit, Task: h}},
		{"wake 0.1", api.Call{Op: api.OpWake, Task: api.Handle{Gen: 1}}},
		{"wake 1.0", api.Call{Op: api.OpWake, Task: api.Handle{Slot: 1}}},
		{"wake 1000000000000.1000000000000", api.Call{Op: api.OpWake, Task: last}},
		{"block 0", api.Call{Op: api.OpBlock}},
		{"block 9", api.Call{Op: api.OpBlock, Cpu: 9}},
		{"yield 10", api.Call{Op: api.OpYield, Cpu: 10}},
		{"yield 999999999999", api.Call{Op: api.OpYield, Cpu: top - 1}},
		{"tick 0 0", api.Call{Op: api.OpTick}},
		{"tick 1 0", api.Call{Op: api.OpTick, Cpu: 1}},
		{"tick 0 1", api.Call{Op: api.OpTick, N: 1}},
		{"tick 63 1000000000000", api.Call{Op: api.OpTick, Cpu: 63, N: top}},
		{"pick 64", api.Call{Op: api.OpPick, Cpu: 64}},
		{"migrate 3.12 7", api.Call{Op: api.OpMigrate, Task: h, Cpu: 7}},
		{"migrate 0.0 1000000000000", api.Call{Op: api.OpMigrate, Cpu: top}},
		{"mask 3.12 2,4-6", api.Call{Op: api.OpMask, Task: h, Mask: 0x74}},
		{"mask 0.0 -", api.Call{Op: api.OpMask}},
		{"nice 3.12 19", api.Call{Op: api.OpNice, Task: h, Nice: 19}},
		{"nice 3.12 -20", api.Call{Op: api.OpNice, Task: h, Nice: -20}},
		{"nice 1000000000000.0 0", api.Call{Op: api.OpNice, Task: api.Handle{Slot: top}}},
		{"balance 0 1", api.Call{Op: api.OpBalance, N: 1}},
		{"balance 2 0", api.Call{Op: api.OpBalance, Cpu: 2}},
		{"stop 1000000000000", api.Call{Op: api.OpStop, Cpu: top}},
		{"look 3.12", api.Call{Op: api.OpLook, Task: h}},
	}
}

// replies are answers and their texts.
func replies() map[string]api.Answer {
	l := map[string]api.Answer{
		"ok 0":                 {},
		"ok 1":                 {N: 1},
		"ok 9":                 {N: 9},
		"ok 10":                {N: 10},
		"ok 999999999999":      {N: top - 1},
		"ok 1000000000000":     {N: top},
		"ok 0 0.1":             {Task: api.Handle{Gen: 1}},
		"ok 0 1.0":             {Task: api.Handle{Slot: 1}},
		"ok 0 2.3":             {Task: api.Handle{Slot: 2, Gen: 3}},
		"ok 7 1000000000000.0": {N: 7, Task: api.Handle{Slot: top}},
		"ok 1000000000000 1000000000000.1000000000000": {N: top, Task: api.Handle{Slot: top, Gen: top}},
	}
	for e := 1; e <= 11; e++ {
		l[fmt.Sprintf("error %d", e)] = api.Answer{Errno: api.Errno(e)}
	}
	return l
}

// fields tells c with its field n as x; five are numbers.
func fields(c api.Call, n, x int) api.Call {
	*[]*int{&c.Task.Slot, &c.Task.Gen, &c.Cpu, &c.N, &c.Nice}[n] = x
	return c
}

// The chapter's example.
func TestExample(t *testing.T) {
	c, errno := Parse("mask 3.1 0-1,4")
	if c != (api.Call{Op: api.OpMask, Task: api.Handle{Slot: 3, Gen: 1}, Mask: 19}) || errno != api.OK {
		t.Error(c, errno)
	}
	if s, errno := Say(api.Answer{Task: api.Handle{Slot: 0, Gen: 1}}); s != "ok 0 0.1" || errno != api.OK {
		t.Error(s, errno)
	}
}

// Q1, Q2: calls of each Op, and their texts, in both directions.
func TestPairs(t *testing.T) {
	met := map[int]bool{}
	for _, x := range pairs() {
		if s, errno := Print(x.c); s != x.s || errno != api.OK {
			t.Errorf("Print(%v): %q, %d; want %q", x.c, s, errno, x.s)
		}
		if c, errno := Parse(x.s); c != x.c || errno != api.OK {
			t.Errorf("Parse(%q): %v, %d; want %v", x.s, c, errno, x.c)
		}
		checkPrint(t, x.c)
		checkText(t, x.s)
		met[x.c.Op] = true
	}
	for op := api.OpCreate; op <= api.OpLook; op++ {
		if !met[op] {
			t.Error("no call of Op", op)
		}
	}
}

// Q1: an Op that is none, whatever else the call has, also what another Op's text would tell.
func TestPrintOps(t *testing.T) {
	for _, op := range ops() {
		want := api.ErrArg
		if op >= 1 && op <= 13 {
			want = api.OK
		}
		if s, errno := Print(api.Call{Op: op}); errno != want || (s == "") != (errno != api.OK) {
			t.Errorf("Print of Op %d: %q, %d", op, s, errno)
		}
		for _, x := range pairs() {
			x.c.Op = op
			checkPrint(t, x.c)
		}
	}
}

// Q1: each number of each Op's calls at the edges, told or not; beside nothing, and beside what is told.
func TestPrintNumbers(t *testing.T) {
	for _, x := range pairs() {
		for n := range 5 {
			for _, v := range append(numbers(), nices()...) {
				checkPrint(t, fields(api.Call{Op: x.c.Op}, n, v))
				checkPrint(t, fields(x.c, n, v))
			}
		}
		for _, m := range masks() {
			checkPrint(t, api.Call{Op: x.c.Op, Mask: m})
			x.c.Mask = m
			checkPrint(t, x.c)
		}
	}
}

// Q1: what an Op's text does not tell, once not 0, is told as ErrArg, and nothing beside it.
func TestPrintWrong(t *testing.T) {
	told := map[int]string{ // Slot and Gen, Cpu, N, Nice, Mask
		api.OpCreate: "...im", api.OpExit: "t....", api.OpWake: "t....", api.OpBlock: ".c...", api.OpYield: ".c...", api.OpTick: ".cn..", api.OpPick: ".c...",
		api.OpMigrate: "tc...", api.OpMask: "t...m", api.OpNice: "t..i.", api.OpBalance: ".cn..", api.OpStop: ".c...", api.OpLook: "t....",
	}
	for op, s := range told {
		for i, c := range []api.Call{{Task: api.Handle{Slot: 1}}, {Task: api.Handle{Gen: 1}}, {Cpu: 1}, {N: 1}, {Nice: 1}, {Mask: 1}} {
			c.Op = op
			want := api.ErrArg
			if s[max(i-1, 0)] != '.' {
				want = api.OK
			}
			if text, errno := Print(c); errno != want || (text == "") != (want != api.OK) {
				t.Errorf("Print(%v): %q, %d, not %d", c, text, errno, want)
			}
		}
	}
	for _, c := range []api.Call{
		{Op: api.OpPick, Cpu: -1}, {Op: api.OpPick, Cpu: top + 1}, {Op: api.OpTick, N: -1}, {Op: api.OpTick, N: top + 1}, {Op: api.OpTick, Cpu: least}, {Op: api.OpTick, N: greatest},
		{Op: api.OpNice, Nice: 1001}, {Op: api.OpNice, Nice: -1001}, {Op: api.OpCreate, Nice: 1001}, {Op: api.OpCreate, Nice: -1001}, {Op: api.OpCreate, Nice: least, Mask: 1}, {Op: api.OpCreate, Nice: greatest, Mask: 1},
		{Op: api.OpLook, Task: api.Handle{Slot: -1}}, {Op: api.OpLook, Task: api.Handle{Gen: -1}}, {Op: api.OpLook, Task: api.Handle{Slot: top + 1}}, {Op: api.OpLook, Task: api.Handle{Gen: top + 1}}, {Op: api.OpLook, Task: api.Handle{Slot: least, Gen: greatest}},
	} {
		if s, errno := Print(c); s != "" || errno != api.ErrArg {
			t.Errorf("Print(%v): %q, %d", c, s, errno)
		}
		checkPrint(t, c)
	}
}

// Q2: numbers, TASKs, NICEs and MASKs of each form, wherever a text has one.
func TestParseWords(t *testing.T) {
	words := []string{"", "-", "--", "+", ".", "..", "-0", "+0", "+1", "-1", "- 1", "0x1", "1_0", "1e3", "1,", ",1", "1.0", ".0", "0.", ".1", "1.", "0.0", "0.0.0", "1.2.3", "0..0", "1..", "..1", ".1.", "0,0", "-1.0", "0.-1", "+1.0", "0.+1", "-0.0", "0.-0", "00.0", "0.00", "01.1", "1.01", "1. 1", "1 .1", "1.1 ", "a", "1a", "a1", "1\u00a0", "\u0661", "\uff11", "\u22121",
		"00", "01", "007", "0000000000000", "0000000000001", "0999999999999", "01000000000000", "999999999999", "1000000000000", "1000000000001", "1000000000010", "2000000000000", "9999999999999", "10000000000000", "9223372036854775807", "9223372036854775808", "18446744073709551616", "18446744073709551617", strings.Repeat("1", 30), strings.Repeat("0", 1100), strings.Repeat("9", 1100),
		"1000000000000.1000000000000", "1000000000001.0", "0.1000000000001", "9999999999999.1", "1.9999999999999", "18446744073709551616.1", "1.18446744073709551617",
		"-1001", "-1000", "-999", "-100", "-99", "-20", "-10", "-9", "-01", "-00", "--1", "-+1", "-1000000000000", "-9223372036854775808", "-9223372036854775809", "-18446744073709551617", "1001", "1000", "999", "100", "19",
		"0-63", "63-0", "0-64", "64", "63", "3,0-1,1", "0,-", "-,0", "0-", "0--1", "2,2,2", "1-1"}
	for _, f := range forms {
		l := strings.Split(f, " ")
		for i := 1; i < len(l); i++ {
			for _, word := range words {
				for _, rest := range []string{"0", "1.1", "-", "5"} {
					text := strings.Split(f, " ")
					for k := 1; k < len(text); k++ {
						text[k] = rest
					}
					text[i] = word
					checkParse(t, strings.Join(text, " "))
				}
			}
		}
	}
	for _, word := range words {
		for _, s := range []string{word, "ok " + word, "error " + word, "ok 1 " + word, "ok " + word + " 1.1", "error 1 " + word, "ok " + word + " " + word} {
			checkHear(t, s)
		}
	}
}

// Q2: what is no call's text; nothing is told beside the error.
func TestParseWrong(t *testing.T) {
	for _, s := range []string{
		"", " ", "  ", "\n", "\x00", "create", "create 0", "create 0 ", "create  0", "create 0 0 0", "create - 0", "create -0 0", "create 1001 0", "create -1001 0", "create 0 64", "create 0 1-0", "create 0 0,", "create 0 , ", "create 0 0, 1", "create 0 --",
		"exit", "exit ", "exit 1", "exit 1.", "exit .1", "exit 1.1 1", "exit 1.1.1", "exit 1,1", "exit -1.1", "exit 1.-1", "exit 01.1", "wake 1.01", "wake 1.1 ", "wake 1.1000000000001", "wake 1000000000001.1",
		"block", "block ", "block -1", "block -0", "block +0", "block 00", "block 0 0", "block 1000000000001", "yield 0.0", "yield  0", "tick 0", "tick 0 ", "tick 0 0 0", "tick  0 0", "tick 0  0", "tick 0 -1", "tick 0 01", "pick a", "pick 1 1",
		"migrate 0.0", "migrate 0 0", "migrate 0 0.0", "migrate 0.0 0 0", "migrate 0.0 -1", "mask 0.0", "mask 0.0 ", "mask 0.0 64", "mask 0.0 - -", "mask - 0.0", "nice 0.0", "nice 0.0 -", "nice 0.0 -0", "nice 0.0 --1", "nice 0.0 +1", "nice 1 0.0", "nice 0.0 01", "balance 0", "balance 0 0 0", "stop", "stop 1 2", "look", "look 0", "look 0.0 0",
		"Create 0 0", "CREATE 0 0", "creat 0 0", "creates 0 0", "create\t0 0", "create 0\t0", "create 0 0\n", "\ncreate 0 0", "create 0 0\r", "create 0 0\x00", "create\x000 0", "create\u00a00 0", "walk 0.0", "0", "0.0", "1 0 0", "ok 0", "error 1", "wake0.0", "wake.0.0",
	} {
		if c, errno := Parse(s); c != (api.Call{}) || errno != api.ErrText {
			t.Errorf("Parse(%q): %v, %d", s, c, errno)
		}
		checkParse(t, s)
	}
}

// Q2, Q4: a first word with another letter, a letter more or less, or in upper case.
func TestFirstWords(t *testing.T) {
	for _, x := range pairs() {
		head, rest, _ := strings.Cut(x.s, " ")
		for i := range head {
			for _, b := range "abyzAZ0 -." {
				checkParse(t, head[:i]+string(b)+head[i+1:]+" "+rest)
			}
			checkParse(t, head[:i]+" "+rest)
			checkParse(t, head[i:]+" "+rest)
			checkParse(t, head[:i]+strings.ToUpper(head[i:i+1])+head[i+1:]+" "+rest)
		}
		checkParse(t, strings.ToUpper(head)+" "+rest)
		checkParse(t, rest)
		checkParse(t, head+rest)
		for _, other := range forms {
			checkParse(t, strings.Fields(other)[0]+" "+rest)
		}
	}
	for s := range replies() {
		checkHear(t, strings.ToUpper(s))
		checkHear(t, strings.ToUpper(s[:1])+s[1:])
		checkHear(t, strings.Replace(s, "ok", "error", 1))
		checkHear(t, strings.Replace(s, "error", "ok", 1))
		checkHear(t, strings.Replace(s, " ", "", 1))
	}
}

// Q2: texts of 1200 bytes are none of a call, those of 1201 are too long, whatever they are; a mask that layer 5 does not read is none.
func TestParseLong(t *testing.T) {
	full := strings.Repeat("10,", 333) + "1" // 1000 bytes
	h := "1000000000000.1000000000000"
	for _, x := range []struct {
		s     string
		errno api.Errno
	}{
		{"mask " + h + " " + full, api.OK}, {"mask " + h + " " + full + "0", api.ErrText}, {"create -1000 " + full, api.OK}, {"create -1000 " + full + ",1", api.ErrText},
		{"create 0 " + full + strings.Repeat(",1", 95) + "0", api.ErrText}, {"create 0 " + full + strings.Repeat(",1", 96), api.ErrLong},
		{strings.Repeat("a", 1200), api.ErrText}, {strings.Repeat("a", 1201), api.ErrLong}, {strings.Repeat(" ", 1200), api.ErrText}, {strings.Repeat(" ", 1201), api.ErrLong}, {"pick 1" + strings.Repeat(" ", 1194), api.ErrText}, {"pick 1" + strings.Repeat(" ", 1195), api.ErrLong},
		{"pick " + strings.Repeat("0", 1195), api.ErrText}, {"pick " + strings.Repeat("0", 1196), api.ErrLong}, {strings.Repeat("\u00e9", 600), api.ErrText}, {strings.Repeat("\u00e9", 600) + "a", api.ErrLong}, {strings.Repeat("\xff", 1201), api.ErrLong}, {strings.Repeat("pick 1 ", 1<<14), api.ErrLong},
	} {
		c, errno := Parse(x.s)
		if errno != x.errno || errno != api.OK && c != (api.Call{}) {
			t.Errorf("Parse of %d bytes: %v, %d, not %d", len(x.s), c, errno, x.errno)
		}
		checkText(t, x.s)
	}
}

// Q3, Q4: answers and their texts, in both directions.
func TestReplies(t *testing.T) {
	for s, a := range replies() {
		if got, errno := Say(a); got != s || errno != api.OK {
			t.Errorf("Say(%v): %q, %d; want %q", a, got, errno, s)
		}
		if got, errno := Hear(s); got != a || errno != api.OK {
			t.Errorf("Hear(%q): %v, %d; want %v", s, got, errno, a)
		}
		checkSay(t, a)
		checkText(t, s)
	}
}

// Q3: Errnos and numbers at the edges, and what may not be beside an error.
func TestSay(t *testing.T) {
	for _, a := range []api.Answer{
		{Errno: -1}, {Errno: 12}, {Errno: least}, {Errno: greatest}, {Errno: 1, N: 1}, {Errno: 11, N: -1}, {Errno: 1, Task: api.Handle{Slot: 1}}, {Errno: 1, Task: api.Handle{Gen: 1}}, {Errno: 5, Task: api.Handle{Slot: -1}}, {Errno: 5, Task: api.Handle{Gen: -1}}, {Errno: -1, N: 1}, {Errno: 12, N: 1},
		{N: -1}, {N: top + 1}, {N: least}, {N: greatest}, {Task: api.Handle{Slot: -1}}, {Task: api.Handle{Gen: -1}}, {Task: api.Handle{Slot: top + 1}}, {Task: api.Handle{Gen: top + 1}}, {Task: api.Handle{Slot: 1, Gen: -1}}, {Task: api.Handle{Slot: -1, Gen: 1}}, {N: -1, Task: api.Handle{Gen: 1}}, {N: 1, Task: api.Handle{Slot: least, Gen: greatest}},
	} {
		if s, errno := Say(a); s != "" || errno != api.ErrArg {
			t.Errorf("Say(%v): %q, %d", a, s, errno)
		}
	}
	for _, e := range []int{least, least + 1, -12, -11, -2, -1, 0, 1, 2, 3, 4, 5, 6, 7, 8, 9, 10, 11, 12, 13, 1 << 32, 1<<32 + 1, greatest} {
		for _, n := range numbers() {
			checkSay(t, api.Answer{Errno: api.Errno(e), N: n})
			for _, m := range numbers() {
				checkSay(t, api.Answer{Errno: api.Errno(e), Task: api.Handle{Slot: n, Gen: m}})
				checkSay(t, api.Answer{Errno: api.Errno(e), N: 5, Task: api.Handle{Slot: n, Gen: m}})
				checkSay(t, api.Answer{Errno: api.Errno(e), N: n, Task: api.Handle{Slot: m}})
				checkSay(t, api.Answer{Errno: api.Errno(e), N: n, Task: api.Handle{Gen: m}})
			}
		}
	}
}

// Q4: what is no answer's text; nothing is told beside the error.
func TestHearWrong(t *testing.T) {
	for _, s := range []string{
		"", " ", "ok", "ok ", "ok  ", " ok 0", "ok 0 ", "ok  0", "ok 0  0.1", "ok 0 0.1 ", "ok 00", "ok 01", "ok -0", "ok -1", "ok +1", "ok 1000000000001", "ok 9999999999999", "ok 18446744073709551616",
		"ok 0 0", "ok 0 0.0", "ok 1 0.0", "ok 1000000000000 0.0", "ok 0 0.00", "ok 0 00.1", "ok 0 0.01", "ok 0 .1", "ok 0 1.", "ok 0 .", "ok 0 1.1.1", "ok 0 -1.1", "ok 0 1.1 1", "ok 0 1.1 1.1", "ok 0 1000000000001.1", "ok 0 1.1000000000001", "ok 0.1", "ok 0.1 0",
		"error", "error ", "error 0", "error 00", "error 01", "error -1", "error +1", "error 12", "error 13", "error 99", "error 100", "error 1000000000000", "error 18446744073709551617", "error 1 0", "error 1 1", "error 1 0.0", "error 1 1.1", "error 1 ", "error  1", " error 1", "error 1.1",
		"OK 0", "Ok 0", "o 0", "okay 0", "Error 1", "ERROR 1", "err 1", "errors 1", "0", "1", "ok\t0", "ok 0\n", "\nok 0", "ok 0\x00", "ok\x000", "ok\u00a00", "ok 0\xff", "ok0", "error1", "pick 1", "look 1.1", "0 ok", "ok ok", "ok error 1", "ok 0 error 1",
	} {
		if a, errno := Hear(s); a != (api.Answer{}) || errno != api.ErrText {
			t.Errorf("Hear(%q): %v, %d", s, a, errno)
		}
		checkHear(t, s)
	}
}

// Q4: texts of 100 bytes are none of an answer, those of 101 are too long, whatever they are.
func TestHearLong(t *testing.T) {
	for _, x := range []string{"a", " ", "0", "ok 0", "error 1", "ok 1 1.1", "ok ", "\xff", "\u00e9"} {
		s := strings.Repeat(x, 101)
		if a, errno := Hear(s[:100]); a != (api.Answer{}) || errno != api.ErrText {
			t.Errorf("Hear(%q): %v, %d", s[:100], a, errno)
		}
		if a, errno := Hear(s[:101]); a != (api.Answer{}) || errno != api.ErrLong {
			t.Errorf("Hear(%q): %v, %d", s[:101], a, errno)
		}
		checkHear(t, s)
	}
	for _, s := range []string{"ok 0" + strings.Repeat(" ", 96), "ok " + strings.Repeat("0", 97), "ok 0 0." + strings.Repeat("1", 93), "error " + strings.Repeat("0", 93) + "1"} {
		for _, text := range []string{s, s + "1", s[:99]} {
			checkHear(t, text)
		}
	}
}
