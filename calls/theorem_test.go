package calls

import (
	"strings"
	"testing"

	"turnspit/api"
	"turnspit/cpus"
)

// pick tells one of l.
func pick[T any](next func() uint64, l []T) T { return l[next()%uint64(len(l))] }

// drawNumber tells a number that is told, most times, of whatever size.
func drawNumber(next func() uint64) int {
	switch next() % 16 {
	case 0:
		return pick(next, numbers())
	case 1:
		return 0
	case 2, 3, 4:
		return int(next() % 64)
	}
	return int(next()%(top+1)) >> (next() % 40)
}

// drawNice tells what is nice, most times.
func drawNice(next func() uint64) int {
	if next()%8 == 0 {
		return pick(next, nices())
	}
	return int(next()%2001) - 1000
}

// drawMask tells a mask, thick or thin.
func drawMask(next func() uint64) uint64 {
	switch next() % 4 {
	case 0:
		return pick(next, masks())
	case 1:
		return next() & next() & next()
	case 2:
		return next() | next() | next()
	}
	return next()
}

// drawCall tells a call, most times one that its text tells.
func drawCall(next func() uint64) api.Call {
	c := api.Call{Op: 1 + int(next()%13)}
	if next()%32 == 0 {
		c.Op = pick(next, ops())
	}
	f := ""
	if c.Op >= 1 && c.Op <= len(forms) {
		f = forms[c.Op-1] + " "
	}
	stray := func() bool { return next()%64 == 0 }
	if strings.Contains(f, " TASK ") || stray() {
		c.Task = api.Handle{Slot: drawNumber(next), Gen: drawNumber(next)}
	}
	if strings.Contains(f, " CPU ") || stray() {
		c.Cpu = drawNumber(next)
	}
	if strings.Contains(f, " N ") || stray() {
		c.N = drawNumber(next)
	}
	if strings.Contains(f, " NICE ") || stray() {
		c.Nice = drawNice(next)
	}
	if strings.Contains(f, " MASK ") || stray() {
		c.Mask = drawMask(next)
	}
	return c
}

// drawAnswer tells an answer, most times one that its text tells.
func drawAnswer(next func() uint64) api.Answer {
	var a api.Answer
	if next()%4 == 0 {
		a.Errno = api.Errno(int(next()%15) - 1)
	}
	if a.Errno == 0 || next()%8 == 0 {
		a.N = drawNumber(next)
	}
	if a.Errno == 0 && next()%2 == 0 || next()%8 == 0 {
		a.Task = api.Handle{Slot: drawNumber(next), Gen: drawNumber(next)}
	}
	return a
}

// drawText tells a text of the words of texts, with a blank between two, most times.
func drawText(next func() uint64) string {
	words := []string{"-", "0", "1", "2.1", "0.0", "0.1", "-1", "-5", "5", "00", "1000000000000", "1000000000001", "0-63", "3,1-2", "1,", "-1000", "1001", "", ".", "ok", "error", "11", "12"}
	first := []string{"ok", "error", "Ok", "walk", ""}
	for _, f := range forms {
		first = append(first, strings.Fields(f)[0])
	}
	l := []string{pick(next, first)}
	for range 1 + next()%3 {
		l = append(l, pick(next, words))
	}
	return strings.Join(l, pick(next, []string{" ", " ", " ", " ", " ", "  ", "\t", ""}))
}

// long tells a mask's text with its items one by one, from the last one down, and some of them twice, so that it has nearly that many bytes.
func long(m uint64, bytes int) string {
	var items []string
	n := 0
	for i := 0; ; i++ {
		item := cpus.Print(m & (1 << (63 - i%64)))
		if item == "-" {
			continue
		}
		if n += len(item) + 1; n > bytes {
			return strings.Join(items, ",")
		}
		items = append(items, item)
	}
}

// Q5: calls that are drawn, and their texts.
func TestTheoremOfCalls(t *testing.T) {
	next := draw(15)
	told := 0
	for range 60000 {
		c := drawCall(next)
		checkPrint(t, c)
		if s, errno := Print(c); errno == api.OK {
			told++
			checkText(t, s)
		}
	}
	if told < 20000 {
		t.Fatal("few calls were told", told)
	}
}

// Q5: answers that are drawn, and their texts.
func TestTheoremOfAnswers(t *testing.T) {
	next := draw(16)
	told := 0
	for range 60000 {
		a := drawAnswer(next)
		checkSay(t, a)
		if s, errno := Say(a); errno == api.OK {
			told++
			checkText(t, s)
		}
	}
	if told < 20000 {
		t.Fatal("few answers were told", told)
	}
}

// Q5: texts that are drawn, and masks that are told in a way that Print does not tell them.
func TestTheoremOfTexts(t *testing.T) {
	next := draw(17)
	read := 0
	for range 60000 {
		s := drawText(next)
		checkText(t, s)
		if _, errno := Parse(s); errno == api.OK {
			read++
		}
	}
	if read < 1000 {
		t.Fatal("few texts were read", read)
	}
	for _, m := range masks()[1:] {
		for _, bytes := range []int{10, 100, 900, 999, 1000, 1001, 1100, 1190, 1200} {
			checkParse(t, "create 0 "+long(m, bytes))
			checkParse(t, "mask 3.1 "+long(m, bytes))
		}
	}
}

// Q5: each text with one byte changed, put in, or taken out.
func TestTheoremOfBytes(t *testing.T) {
	var texts []string
	for _, x := range pairs() {
		texts = append(texts, x.s)
	}
	for s := range replies() {
		texts = append(texts, s)
	}
	for _, s := range texts {
		for i := range len(s) + 1 {
			for b := range 256 {
				if len(s) > 12 && b > ' ' && b%5 != 0 && !strings.ContainsRune("019-.+,", rune(b)) {
					continue
				}
				put := s[:i] + string([]byte{byte(b)})
				checkText(t, put+s[i:])
				if i < len(s) {
					checkText(t, put+s[i+1:])
				}
			}
			if i < len(s) {
				checkText(t, s[:i]+s[i+1:])
			}
		}
	}
}

// Q5: whatever is put between, ahead of or behind words.
func TestTheoremOfBlanks(t *testing.T) {
	for _, x := range pairs() {
		for i := range len(x.s) + 1 {
			if i > 0 && i < len(x.s) && x.s[i] != ' ' && x.s[i-1] != ' ' {
				continue
			}
			for _, put := range []string{" ", "  ", "\t", "\n", "\r\n", "\x00", "\u00a0", "\u2003", " 0", "0 ", " 0 ", " 1.1 ", " - ", ".", "-", "\xff"} {
				checkText(t, x.s[:i]+put+x.s[i:])
				if i < len(x.s) {
					checkText(t, x.s[:i]+put+x.s[i+1:])
				}
			}
		}
	}
}

// FuzzCalls holds all promises against the words of the chapter, at whatever call, answer and texts.
func FuzzCalls(f *testing.F) {
	for _, x := range pairs() {
		f.Add(x.s, "ok 0 0.1", x.c.Op, x.c.Task.Slot, x.c.Task.Gen, x.c.Cpu, x.c.N, x.c.Nice, x.c.Mask)
	}
	f.Add("", "error 11", least, -1, greatest, top, top+1, -1001, every)
	f.Fuzz(func(t *testing.T, s, a string, op, slot, gen, cpu, n, nice int, m uint64) {
		h := api.Handle{Slot: slot, Gen: gen}
		checkPrint(t, api.Call{Op: op, Task: h, Cpu: cpu, N: n, Nice: nice, Mask: m})
		for op := range 15 {
			checkPrint(t, api.Call{Op: op, Task: h})
			checkPrint(t, api.Call{Op: op, Task: h, Cpu: cpu, Nice: nice, Mask: m})
			checkPrint(t, api.Call{Op: op, Cpu: cpu, N: n})
			checkPrint(t, api.Call{Op: op, Nice: nice, Mask: m})
		}
		checkSay(t, api.Answer{Errno: api.Errno(op), N: n, Task: h})
		checkSay(t, api.Answer{N: n, Task: h})
		checkText(t, s)
		checkText(t, a)
		checkText(t, s+" "+a)
	})
}
