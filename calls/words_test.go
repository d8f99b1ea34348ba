package calls

import (
	"fmt"
	"regexp"
	"strings"

	"turnspit/api"
	"turnspit/cpus"
)

// The chapter's words, told in another way: by what it writes of calls, as it writes it.

// chapter is the calls' texts, Op 1 to 13 in order.
const chapter = "create NICE MASK, exit TASK, wake TASK, block CPU, yield CPU, tick CPU N, pick CPU, migrate TASK CPU, mask TASK MASK, nice TASK NICE, balance CPU N, stop CPU, look TASK"

// forms are these, form n that of Op n+1.
var forms = strings.Split(chapter, ", ")

const (
	digits  = `(0|[1-9][0-9]{0,11}|1000000000000)`
	modest  = `(0|-?(?:[1-9][0-9]{0,2}|1000))`
	anybody = digits + `\.` + digits
)

// right are what texts of these forms look like, but for what a mask looks like.
var right = func() []*regexp.Regexp {
	var l []*regexp.Regexp
	for _, f := range forms {
		f = strings.NewReplacer("NICE", modest, "MASK", "([^ ]+)", "TASK", anybody, "CPU", digits, "N", digits).Replace(f)
		l = append(l, regexp.MustCompile(`\A`+f+`\z`))
	}
	return l
}()

// heard are what answers' texts look like, but for a TASK that is all 0.
var heard = regexp.MustCompile(`\A(?:error ([1-9]|10|11)|ok ` + digits + `(?: ` + anybody + `)?)\z`)

// toldText is what Print and Say are to tell.
type toldText struct {
	s     string
	errno api.Errno
}

// toldCall is what Parse is to tell.
type toldCall struct {
	c     api.Call
	errno api.Errno
}

// toldAnswer is what Hear is to tell.
type toldAnswer struct {
	a     api.Answer
	errno api.Errno
}

// isNumber tells whether n may be told.
func isNumber(n int) bool { return 0 <= n && n <= 1e12 }

// isHandle tells whether h may be told.
func isHandle(h api.Handle) bool { return isNumber(h.Slot) && isNumber(h.Gen) }

// wantPrint tells what Q1 asks of c.
func wantPrint(c api.Call) toldText {
	if c.Op < 1 || c.Op > len(forms) {
		return toldText{errno: api.ErrArg}
	}
	s := forms[c.Op-1]
	for _, x := range []struct {
		name string
		text string
		can  bool
		none bool
	}{
		{"NICE", fmt.Sprint(c.Nice), -1000 <= c.Nice && c.Nice <= 1000, c.Nice == 0},
		{"MASK", cpus.Print(c.Mask), true, c.Mask == 0},
		{"TASK", fmt.Sprintf("%d.%d", c.Task.Slot, c.Task.Gen), isHandle(c.Task), c.Task == api.Handle{}},
		{"CPU", fmt.Sprint(c.Cpu), isNumber(c.Cpu), c.Cpu == 0},
		{"N", fmt.Sprint(c.N), isNumber(c.N), c.N == 0},
	} {
		told := strings.Contains(s+" ", " "+x.name+" ")
		if told && !x.can || !told && !x.none {
			return toldText{errno: api.ErrArg}
		}
		if told {
			s = strings.Replace(s+" ", " "+x.name+" ", " "+x.text+" ", 1)
			s = s[:len(s)-1]
		}
	}
	return toldText{s: s}
}

// wantParse tells what Q2 asks of s.
func wantParse(s string) toldCall {
	if len(s) > 1200 {
		return toldCall{errno: api.ErrLong}
	}
	for i, r := range right {
		l := r.FindStringSubmatch(s)
		if l == nil {
			continue
		}
		c := api.Call{Op: i + 1}
		l = l[1:]
		for _, field := range strings.Fields(forms[i])[1:] {
			switch field {
			case "NICE":
				c.Nice = value(l[0])
			case "CPU":
				c.Cpu = value(l[0])
			case "N":
				c.N = value(l[0])
			case "TASK":
				c.Task = api.Handle{Slot: value(l[0]), Gen: value(l[1])}
				l = l[1:]
			case "MASK":
				m, errno := cpus.Parse(l[0])
				if errno != api.OK {
					return toldCall{errno: api.ErrText}
				}
				c.Mask = m
			}
			l = l[1:]
		}
		return toldCall{c: c}
	}
	return toldCall{errno: api.ErrText}
}

// value tells the number of a text that is one.
func value(s string) int {
	n := 0
	if _, err := fmt.Sscanf(s, "%d", &n); err != nil {
		panic(err)
	}
	return n
}

// wantSay tells what Q3 asks of a.
func wantSay(a api.Answer) toldText {
	none := a.Task == api.Handle{}
	switch {
	case a.Errno < 0 || a.Errno > 11, a.Errno != 0 && (a.N != 0 || !none), !isNumber(a.N), !isHandle(a.Task):
		return toldText{errno: api.ErrArg}
	case a.Errno != 0:
		return toldText{s: fmt.Sprintf("error %d", a.Errno)}
	case none:
		return toldText{s: fmt.Sprintf("ok %d", a.N)}
	}
	return toldText{s: fmt.Sprintf("ok %d %d.%d", a.N, a.Task.Slot, a.Task.Gen)}
}

// wantHear tells what Q4 asks of s.
func wantHear(s string) toldAnswer {
	if len(s) > 100 {
		return toldAnswer{errno: api.ErrLong}
	}
	l := heard.FindStringSubmatch(s)
	switch {
	case l == nil, l[3] == "0" && l[4] == "0":
		return toldAnswer{errno: api.ErrText}
	case l[1] != "":
		return toldAnswer{a: api.Answer{Errno: api.Errno(value(l[1]))}}
	case l[3] == "":
		return toldAnswer{a: api.Answer{N: value(l[2])}}
	}
	return toldAnswer{a: api.Answer{N: value(l[2]), Task: api.Handle{Slot: value(l[3]), Gen: value(l[4])}}}
}
