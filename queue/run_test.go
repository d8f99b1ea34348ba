package queue

import (
	"math"
	"testing"

	"turnspit/api"
)

// M4: nobody; who runs alone, first again, and not first; the tree alone; the same times.
func TestPutAndPick(t *testing.T) {
	for _, min := range mins() {
		for name, x := range map[string]struct {
			q          api.Queue
			put        int // -1: ErrIdle
			pick       int // -1: ErrIdle
			v          uint64
			min        uint64
			sizeOfTree int // behind Pick
		}{
			"nobody of none":               {built(t, 0, min, false), -1, -1, 0, 0, 0},
			"nobody":                       {built(t, 4, min, false), -1, -1, 0, 0, 0},
			"who runs alone":               {built(t, 4, min, true, mate{3, 0, 5}), 3, 3, min, min, 0},
			"who runs alone, ahead":        {built(t, 4, min, true, mate{0, 9, 5}), 0, 0, min + 9, min + 9, 0},
			"who runs alone, behind":       {built(t, 4, min, true, mate{0, -9, 5}), 0, 0, min - 9, min, 0},
			"who runs first again":         {built(t, 4, min, true, mate{2, 3, 5}, mate{1, 4, 5}, mate{3, 5, 5}), 2, 2, min + 3, min + 3, 2},
			"who runs first by its number": {built(t, 4, min, true, mate{1, 4, 5}, mate{2, 4, 5}, mate{3, 4, 5}), 1, 1, min + 4, min + 4, 2},
			"another one by its number":    {built(t, 4, min, true, mate{3, 4, 5}, mate{2, 4, 5}, mate{1, 4, 5}), 3, 1, min + 4, min + 4, 2},
			"another one is first":         {built(t, 4, min, true, mate{0, 1, 5}, mate{2, 0, 5}, mate{3, 0, 5}), 0, 2, min, min, 2},
			"the tree alone":               {built(t, 4, min, false, mate{0, 8, 5}, mate{2, 7, 5}, mate{3, 9, 5}), -1, 2, min + 7, min + 7, 2},
			"one in the tree":              {built(t, 4, min, false, mate{0, 1 << 50, 5}), -1, 0, min + 1<<50, min + 1<<50, 0},
			"all behind":                   {built(t, 4, min, true, mate{0, -1 << 50, 5}, mate{2, -1, 5}), 0, 0, min - 1<<50, min, 1},
			"as far as may be":             {built(t, 4, min, true, mate{2, 1 << 50, 5}, mate{1, 1 << 50, 5}), 2, 1, min + 1<<50, min + 1<<50, 1},
			"from one end to the other":    {built(t, 4, min, true, mate{0, 1 << 50, 5}, mate{1, -1 << 50, 5}), 0, 1, min - 1<<50, min, 1},
		} {
			checkAll(t, x.q)
			y, id, errno := Put(x.q)
			if x.put == -1 {
				if got := (told{y, id, false, errno}); !got.equal(told{errno: api.ErrIdle}) {
					t.Errorf("by %d: %s: Put: %v", min, name, got)
				}
			} else if id != x.put || errno != api.OK || !Right(y) || y.Cur != -1 || y.V != 0 || y.Min != min || y.Load != x.q.Load || !y.Tree.Nodes[id].In || y.Tree.Nodes[id].V != x.q.V {
				t.Errorf("by %d: %s: Put: %v, %d, %d", min, name, y, id, errno)
			}
			y, id, errno = Pick(x.q)
			if x.pick == -1 {
				if got := (told{y, id, false, errno}); !got.equal(told{errno: api.ErrIdle}) {
					t.Errorf("by %d: %s: Pick: %v", min, name, got)
				}
			} else if id != x.pick || errno != api.OK || !Right(y) || y.Cur != id || y.V != x.v || y.Min != x.min || y.Load != x.q.Load || y.Tree.Nodes[id] != bare || len(Keys(y)) != x.sizeOfTree+1 {
				t.Errorf("by %d: %s: Pick: %v, %d, %d", min, name, y, id, errno)
			}
		}
	}
}

// M4: who is picked is the first one by Min, wherever times go round, of 64 that are picked and leave one after another.
func TestPickAll(t *testing.T) {
	for _, min := range mins() {
		var l []mate
		for i := range 64 {
			l = append(l, mate{i * 27 % 64, (i/2*11%32 - 9) << 40, 1 + i})
		}
		for _, runs := range []bool{false, true} {
			q := built(t, 64, min, runs, l...)
			for n := range 64 {
				first := wantKeys(q)[0]
				check(t, "Pick", q, wantPick(q), picked)
				x, id, errno := Pick(q)
				if id != first.Id || x.V != first.V || errno != api.OK {
					t.Fatalf("by %d: Pick %d: %d, %d; want %v", min, n, id, errno, first)
				}
				q, _, _ = Leave(x, id)
			}
			if len(Keys(q)) != 0 || q.Load != 0 {
				t.Fatalf("by %d: %v", min, q)
			}
		}
	}
}

// M5: how far who runs goes, where Min is then, and who is first then.
func TestTick(t *testing.T) {
	for _, min := range mins() {
		for name, x := range map[string]struct {
			q    api.Queue
			d    int
			v    uint64
			min  uint64
			more bool
		}{
			"alone, 0":                     {built(t, 4, min, true, mate{3, 0, 1024}), 0, min, min, false},
			"alone, 1":                     {built(t, 4, min, true, mate{3, 0, 1024}), 1, min + 1, min + 1, false},
			"alone, ahead, 0":              {built(t, 4, min, true, mate{3, 6, 1024}), 0, min + 6, min + 6, false},
			"alone, behind":                {built(t, 4, min, true, mate{3, -6, 1024}), 5, min - 1, min, false},
			"alone, from behind to Min":    {built(t, 4, min, true, mate{3, -6, 1024}), 6, min, min, false},
			"alone, from behind beyond it": {built(t, 4, min, true, mate{3, -6, 1024}), 8, min + 2, min + 2, false},
			"a light one, 1":               {built(t, 4, min, true, mate{3, 0, 1}), 1, min + 1024, min + 1024, false},
			"a light one, 2^38":            {built(t, 4, min, true, mate{3, 0, 1}), 1 << 38, min + 1<<48, min + 1<<48, false},
			"a light one, 2^40":            {built(t, 4, min, true, mate{3, 0, 1}), 1 << 40, min + 1<<48, min + 1<<48, false}, // at most MaxStep
			"a light one, 2^38 less 1":     {built(t, 4, min, true, mate{3, 0, 1}), 1<<38 - 1, min + 1<<48 - 1024, min + 1<<48 - 1024, false},
			"one of 15, 100":               {built(t, 4, min, true, mate{3, 0, 15}), 100, min + 6826, min + 6826, false},
			"a heavy one, 1":               {built(t, 4, min, true, mate{3, 0, 88761}), 1, min, min, false}, // less than 1, rounded down
			"a heavy one, 86":              {built(t, 4, min, true, mate{3, 0, 88761}), 86, min, min, false},
			"a heavy one, 87":              {built(t, 4, min, true, mate{3, 0, 88761}), 87, min + 1, min + 1, false},
			"a heavy one, 2^40":            {built(t, 4, min, true, mate{3, 0, 88761}), 1 << 40, min + 12684623954, min + 12684623954, false},
			"one of 1024, 2^40":            {built(t, 4, min, true, mate{3, 0, 1024}), 1 << 40, min + 1<<40, min + 1<<40, false},
			"up to as far as may be":       {built(t, 4, min, true, mate{3, 1<<50 - 7, 1024}, mate{0, 0, 5}), 7, min + 1<<50, min, true},
			"beyond as far as may be":      {built(t, 4, min, true, mate{3, 1<<50 - 7, 1024}, mate{0, 0, 5}), 8, min + 1<<50, min, true},
			"far beyond it":                {built(t, 4, min, true, mate{3, 1<<50 - 7, 1}, mate{0, -4, 5}), 1 << 40, min + 1<<50, min, true},
			"as far as may be already":     {built(t, 4, min, true, mate{3, 1 << 50, 1024}, mate{0, 3, 5}), 9, min + 1<<50, min + 3, true},
			"alone as far as may be":       {built(t, 4, min, true, mate{3, 1 << 50, 1024}), 9, min + 1<<50, min + 1<<50, false},
			"two as far as may be, less":   {built(t, 4, min, true, mate{3, 1 << 50, 1024}, mate{1, 1 << 50, 5}), 9, min + 1<<50, min + 1<<50, true},
			"two as far as may be":         {built(t, 4, min, true, mate{1, 1 << 50, 1024}, mate{3, 1 << 50, 5}), 9, min + 1<<50, min + 1<<50, false},
			"still first":                  {built(t, 4, min, true, mate{3, 0, 1024}, mate{0, 10, 5}), 9, min + 9, min + 9, false},
			"the same time, a less number": {built(t, 4, min, true, mate{1, 0, 1024}, mate{3, 10, 5}), 10, min + 10, min + 10, false},
			"the same time, a greater one": {built(t, 4, min, true, mate{3, 0, 1024}, mate{1, 10, 5}), 10, min + 10, min + 10, true},
			"no more first":                {built(t, 4, min, true, mate{1, 0, 1024}, mate{3, 10, 5}), 11, min + 11, min + 10, true},
			"never first":                  {built(t, 4, min, true, mate{1, 0, 1024}, mate{3, -10, 5}), 0, min, min, true},
			"Min stays at one behind":      {built(t, 4, min, true, mate{1, 0, 1024}, mate{3, -10, 5}), 100, min + 100, min, true},
			"Min is brought up by others":  {built(t, 4, min, true, mate{1, 8, 1024}, mate{3, 5, 5}, mate{0, 6, 5}), 0, min + 8, min + 5, true},
			"as far behind as may be":      {built(t, 4, min, true, mate{1, -1 << 50, 1024}, mate{3, 0, 5}), 3, min - 1<<50 + 3, min, false},
		} {
			checkAll(t, x.q)
			y, more, errno := Tick(x.q, x.d)
			if y.V != x.v || y.Min != x.min || more != x.more || errno != api.OK || y.Cur != x.q.Cur || y.Load != x.q.Load || !Right(y) {
				t.Errorf("by %d: %s: %v, %t, %d", min, name, y, more, errno)
			}
		}
	}
}

// M5: numbers that are none, and ErrArg ahead of ErrIdle.
func TestTickOfNone(t *testing.T) {
	for _, min := range mins() {
		for name, q := range map[string]api.Queue{
			"nobody of none": built(t, 0, min, false), "nobody": built(t, 3, min, false), "nobody runs": built(t, 3, min, false, mate{1, 0, 15}, mate{2, 5, 15}),
		} {
			for _, d := range []int{0, 1, 1024, 1 << 40} {
				if got := ticked(q, d); !got.equal(told{errno: api.ErrIdle}) {
					t.Errorf("by %d: %s: Tick(%d): %v", min, name, d, got)
				}
			}
		}
		for name, q := range map[string]api.Queue{
			"nobody": built(t, 3, min, false), "nobody runs": built(t, 3, min, false, mate{1, 0, 15}), "one runs": some(t, min),
		} {
			for _, d := range []int{math.MinInt, -1 << 40, -1, 1<<40 + 1, 1 << 41, 1 << 62, math.MaxInt} {
				if got := ticked(q, d); !got.equal(told{errno: api.ErrArg}) {
					t.Errorf("by %d: %s: Tick(%d): %v", min, name, d, got)
				}
			}
		}
	}
}

// M6: who weighs otherwise, and what may not be.
func TestWeigh(t *testing.T) {
	for _, min := range mins() {
		q := some(t, min)
		for _, id := range []int{0, 2, 4, 5} {
			for _, w := range []int{1, 2, 15, 1024, 88760, 88761, q.Weights[id]} {
				x, errno := Weigh(q, id, w)
				if errno != api.OK || x.Weights[id] != w || x.Load != q.Load+w-q.Weights[id] || !Right(x) {
					t.Errorf("by %d: Weigh(%d, %d): %v, %d", min, id, w, x, errno)
				}
				x.Weights[id], x.Load = q.Weights[id], q.Load
				if !sameQueue(x, q) {
					t.Errorf("by %d: Weigh(%d, %d): %v", min, id, w, x)
				}
				checkWeigh(t, q, id, w)
			}
		}
		for _, x := range []struct {
			id, weight int
			errno      api.Errno
		}{
			{-1, 1, api.ErrArg}, {6, 1, api.ErrArg}, {math.MinInt, 1, api.ErrArg}, {math.MaxInt, 1, api.ErrArg}, {64, 1, api.ErrArg}, {-1, 0, api.ErrArg},
			{0, 0, api.ErrArg}, {2, 0, api.ErrArg}, {0, 88762, api.ErrArg}, {2, 88762, api.ErrArg}, {4, -1, api.ErrArg}, {5, math.MinInt, api.ErrArg}, {5, math.MaxInt, api.ErrArg},
			{1, 1, api.ErrIdle}, {3, 88761, api.ErrIdle}, {1, 0, api.ErrArg}, {3, 88762, api.ErrArg}, {3, math.MinInt, api.ErrArg},
		} {
			if got := weighedAs(q, x.id, x.weight); !got.equal(told{errno: x.errno}) {
				t.Errorf("by %d: Weigh(%d, %d): %v", min, x.id, x.weight, got)
			}
			checkWeigh(t, q, x.id, x.weight)
		}
	}
}
