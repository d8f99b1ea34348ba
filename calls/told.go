package calls

import "turnspit/api"

// names are the calls' first words, by their Op.
var names = [...]string{
	api.OpCreate:  "create",
	api.OpExit:    "exit",
	api.OpWake:    "wake",
	api.OpBlock:   "block",
	api.OpYield:   "yield",
	api.OpTick:    "tick",
	api.OpPick:    "pick",
	api.OpMigrate: "migrate",
	api.OpMask:    "mask",
	api.OpNice:    "nice",
	api.OpBalance: "balance",
	api.OpStop:    "stop",
	api.OpLook:    "look",
}

// call is one whose parts are told, or read, word by word.
type call api.Call

func (c *call) task() part { return (*handle)(&c.Task) }
func (c *call) cpu() part  { return (*number)(&c.Cpu) }
func (c *call) n() part    { return (*number)(&c.N) }
func (c *call) nice() part { return (*nice)(&c.Nice) }
func (c *call) mask() part { return (*mask)(&c.Mask) }

// told tells the parts of c that its text tells, in its order; none, if its Op is none.
func (c *call) told() []part {
	var l []part
	for _, of := range parts()[c.Op] {
		l = append(l, of(c))
	}
	return l
}

// parts tells what the calls are told, by their Op.
func parts() map[int][]func(*call) part {
	return map[int][]func(*call) part{
		api.OpCreate:  {(*call).nice, (*call).mask},
		api.OpExit:    {(*call).task},
		api.OpWake:    {(*call).task},
		api.OpBlock:   {(*call).cpu},
		api.OpYield:   {(*call).cpu},
		api.OpTick:    {(*call).cpu, (*call).n},
		api.OpPick:    {(*call).cpu},
		api.OpMigrate: {(*call).task, (*call).cpu},
		api.OpMask:    {(*call).task, (*call).mask},
		api.OpNice:    {(*call).task, (*call).nice},
		api.OpBalance: {(*call).cpu, (*call).n},
		api.OpStop:    {(*call).cpu},
		api.OpLook:    {(*call).task},
	}
}

// name tells the first word of calls of that Op; an empty one, if it is none.
func name(op int) string {
	if op < 0 || op >= len(names) {
		return ""
	}
	return names[op]
}

// op tells the Op of calls with that first word; 0, if there is none.
func op(word string) int {
	for op, first := range names {
		if first == word {
			return op
		}
	}
	return 0
}
