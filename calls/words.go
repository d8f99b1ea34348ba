package calls

import (
	"strconv"
	"strings"

	"turnspit/api"
	"turnspit/cpus"
)

const (
	maxNumber = 1000000000000
	maxNice   = 1000 // either way; whether a task may be that nice is for others to say
	dot       = "."  // between a handle's two numbers
)

// part is what one word of a text tells.
type part interface {
	word() string          // tells it, also where it is beyond what is read
	read(word string) bool // has it be what the word tells; false, if the word tells none
}

type (
	number int
	nice   int
	handle api.Handle
	mask   uint64
)

func (x *number) word() string { return strconv.Itoa(int(*x)) }
func (x *nice) word() string   { return strconv.Itoa(int(*x)) }
func (x *mask) word() string   { return cpus.Print(uint64(*x)) }
func (x *handle) word() string { return strconv.Itoa(x.Slot) + dot + strconv.Itoa(x.Gen) }

func (x *number) read(word string) bool {
	n, ok := between(word, 0, maxNumber)
	*x = number(n)
	return ok
}

func (x *nice) read(word string) bool {
	n, ok := between(word, -maxNice, maxNice)
	*x = nice(n)
	return ok
}

func (x *mask) read(word string) bool {
	m, errno := cpus.Parse(word)
	*x = mask(m)
	return errno == api.OK
}

func (x *handle) read(word string) bool {
	slot, gen, _ := strings.Cut(word, dot) // without a dot gen is empty, and no number
	return (*number)(&x.Slot).read(slot) && (*number)(&x.Gen).read(gen)
}

// between tells the number, from least to most, that the word is, and true; 0 and false, if it is none.
func between(word string, least, most int) (int, bool) {
	n, err := strconv.Atoi(word)
	if err != nil || n < least || n > most {
		return 0, false
	}
	if strconv.Itoa(n) != word { // Atoi reads a +, -0 and noughts ahead, too
		return 0, false
	}
	return n, true
}

// tell tells a text: its first word, and one for each part.
func tell(head string, parts ...part) string {
	words := []string{head}
	for _, p := range parts {
		words = append(words, p.word())
	}
	return strings.Join(words, blank)
}

// read has each part be what its word of s tells; false, if there are more or fewer words, or one tells no such part.
func read(s string, parts ...part) bool {
	for word := range strings.SplitSeq(s, blank) {
		if len(parts) == 0 || !parts[0].read(word) {
			return false
		}
		parts = parts[1:]
	}
	return len(parts) == 0
}
