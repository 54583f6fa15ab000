package arena_test

import (
	"math"
	"math/rand"
	"testing"

	"thicket/api"
	"thicket/arena"
)

const (
	greatest = math.MaxInt64
	least    = math.MinInt64
)

// fresh is what a cell has that was just taken.
var fresh = [api.Fields]int64{
	api.Up: api.None, api.Down: api.None, api.Left: api.None, api.Right: api.None,
	api.Rank: 0, api.Mark: 0, api.Item: api.None, api.Key: 0, api.Serial: 0, api.Node: api.None,
}

// odd are ints that are no cell of a small arena and no field, whatever is taken.
func odd() []int {
	return []int{math.MinInt, math.MinInt + 1, -1 << 32, -api.MaxCells, -2, -1, 99, api.MaxCells - 1, api.MaxCells, 1 << 32, math.MaxInt - 1, math.MaxInt}
}

// mustStep runs a call and holds how many steps it took against how many it must take.
func mustStep(t *testing.T, a *arena.Arena, steps int64, what string, call func()) {
	t.Helper()
	was := a.Meter().Steps()
	call()
	if got := a.Meter().Steps() - was; got != steps {
		t.Errorf("P5.3: %s: %d steps, must be %d", what, got, steps)
	}
}

func mustTake(t *testing.T, a *arena.Arena, want int) {
	t.Helper()
	mustStep(t, a, 1, "Take", func() {
		if c, ok := a.Take(); c != want || !ok {
			t.Errorf("P5.1: Take: %d %t, must be %d", c, ok, want)
		}
	})
}

func mustTakeNone(t *testing.T, a *arena.Arena) {
	t.Helper()
	mustStep(t, a, 1, "Take of none left", func() {
		if c, ok := a.Take(); c != api.None || ok {
			t.Errorf("P5.1: Take of none left: %d %t", c, ok)
		}
	})
}

func mustGive(t *testing.T, a *arena.Arena, c int, want bool) {
	t.Helper()
	mustStep(t, a, 1, "Give", func() {
		if got := a.Give(c); got != want {
			t.Errorf("P5.1: Give(%d): %t", c, got)
		}
	})
}

func mustSet(t *testing.T, a *arena.Arena, c, field int, v int64, want bool) {
	t.Helper()
	mustStep(t, a, 1, "Set", func() {
		if got := a.Set(c, field, v); got != want {
			t.Errorf("P5.2: Set(%d, %d, %d): %t", c, field, v, got)
		}
	})
}

// mustGet asks Get and Cell both: the second is the first as a cell.
func mustGet(t *testing.T, a *arena.Arena, c, field int, want int64) {
	t.Helper()
	mustStep(t, a, 1, "Get", func() {
		if got := a.Get(c, field); got != want {
			t.Errorf("P5.2: Get(%d, %d): %d, must be %d", c, field, got, want)
		}
	})
	cell := api.None
	if want >= 0 && want < int64(a.Cells()) {
		cell = int(want)
	}
	mustStep(t, a, 1, "Cell", func() {
		if got := a.Cell(c, field); got != cell {
			t.Errorf("P5.2: Cell(%d, %d): %d, must be %d", c, field, got, cell)
		}
	})
}

func mustHave(t *testing.T, a *arena.Arena, c int, want [api.Fields]int64) {
	t.Helper()
	for field, v := range want {
		mustGet(t, a, c, field, v)
	}
}

// mustLive asks which cells are taken, twice over: asking changes nothing and is no step.
func mustLive(t *testing.T, a *arena.Arena, taken ...int) {
	t.Helper()
	is := map[int]bool{}
	for _, c := range taken {
		is[c] = true
	}
	mustStep(t, a, 0, "Live, Len, Cells", func() {
		for range 2 {
			for c := -1; c <= min(a.Cells(), 100); c++ {
				if got := a.Live(c); got != is[c] {
					t.Errorf("P5.3: Live(%d): %t", c, got)
				}
			}
			if got := a.Len(); got != len(taken) {
				t.Errorf("P5.3: Len: %d, must be %d", got, len(taken))
			}
		}
	})
}

// mark sets a number in each field of c that tells the cell and the field.
func mark(t *testing.T, a *arena.Arena, c int) [api.Fields]int64 {
	t.Helper()
	var has [api.Fields]int64
	for field := range has {
		has[field] = int64(1000*(c+1) + field)
		mustSet(t, a, c, field, has[field], true)
	}
	return has
}

func TestNew(t *testing.T) {
	for _, c := range []struct{ cells, want int }{
		{math.MinInt, 0}, {-api.MaxCells, 0}, {-1, 0}, {0, 0}, {1, 1}, {7, 7},
		{api.MaxCells - 1, api.MaxCells - 1}, {api.MaxCells, api.MaxCells},
		{api.MaxCells + 1, api.MaxCells}, {1 << 32, api.MaxCells}, {math.MaxInt, api.MaxCells},
	} {
		a := arena.New(c.cells)
		if a.Cells() != c.want {
			t.Errorf("P5.1: New(%d): %d cells, must be %d", c.cells, a.Cells(), c.want)
		}
		if m := a.Meter(); m == nil || m.Steps() != 0 || m.Most() != 0 {
			t.Errorf("P5.3: New(%d): its meter has counted", c.cells)
		}
		mustLive(t, a)
		for cell := range c.want {
			if got, ok := a.Take(); got != cell || !ok {
				t.Fatalf("P5.1: Take of New(%d): %d %t, must be %d", c.cells, got, ok, cell)
			}
		}
		mustTakeNone(t, a)
		if a.Len() != c.want || a.Meter().Steps() != int64(c.want)+1 {
			t.Errorf("P5.3: New(%d): %d taken in %d steps", c.cells, a.Len(), a.Meter().Steps())
		}
		mustGet(t, a, c.want, api.Rank, api.None)
		mustGive(t, a, c.want, false)
	}
}

func TestRun(t *testing.T) {
	a := arena.New(2)
	mustTake(t, a, 0)
	mustTake(t, a, 1)
	mustGive(t, a, 0, true)
	mustTake(t, a, 0)
	mustTakeNone(t, a)
	mustLive(t, a, 0, 1)
}

func TestTakeOfTheOneGivenBackLast(t *testing.T) {
	a := arena.New(6)
	for c := range 4 {
		mustTake(t, a, c)
	}
	mustGive(t, a, 1, true)
	mustGive(t, a, 3, true)
	mustGive(t, a, 0, true)
	mustLive(t, a, 2)
	mustTake(t, a, 0)
	mustTake(t, a, 3)
	mustGive(t, a, 2, true)
	mustLive(t, a, 0, 3)
	mustTake(t, a, 2) // not 1, which waits longer
	mustTake(t, a, 1)
	mustTake(t, a, 4) // none waits: the lowest that was never taken
	mustGive(t, a, 4, true)
	mustGive(t, a, 0, true)
	mustTake(t, a, 0)
	mustTake(t, a, 4)
	mustTake(t, a, 5)
	mustTakeNone(t, a)
	mustTakeNone(t, a)
	mustLive(t, a, 0, 1, 2, 3, 4, 5)
	mustGive(t, a, 3, true)
	mustTake(t, a, 3)
	mustTakeNone(t, a)
}

func TestNoCells(t *testing.T) {
	a := arena.New(0)
	for range 3 {
		mustTakeNone(t, a)
		mustGive(t, a, 0, false)
		mustSet(t, a, 0, api.Key, 1, false)
		mustGet(t, a, 0, api.Key, api.None)
		mustLive(t, a)
	}
}

func TestFresh(t *testing.T) {
	a := arena.New(3)
	for c := range 3 {
		mustTake(t, a, c)
		mustHave(t, a, c, fresh)
	}
}

func TestTakenAgainIsFresh(t *testing.T) {
	a := arena.New(3)
	mustTake(t, a, 0)
	mustTake(t, a, 1)
	other := mark(t, a, 0)
	for _, v := range []int64{least, -1, 0, 1, 7, greatest} {
		for field := range api.Fields {
			mustSet(t, a, 1, field, v, true)
		}
		mustGive(t, a, 1, true)
		mustTake(t, a, 1)
		mustHave(t, a, 1, fresh)
	}
	mustHave(t, a, 0, other)
}

func TestGiveTwice(t *testing.T) {
	a := arena.New(3)
	mustTake(t, a, 0)
	mustTake(t, a, 1)
	mustGive(t, a, 0, true)
	mustGive(t, a, 0, false)
	mustGive(t, a, 0, false)
	mustLive(t, a, 1)
	mustTake(t, a, 0)
	mustTake(t, a, 2) // 0 waited once, not thrice
	mustTakeNone(t, a)
	mustLive(t, a, 0, 1, 2)
}

func TestGiveOfNone(t *testing.T) {
	a := arena.New(4)
	for _, c := range append(odd(), 0, 1, 2, 3, 4) {
		mustGive(t, a, c, false)
		mustLive(t, a)
	}
	mustTake(t, a, 0)
	mustTake(t, a, 1)
	one := mark(t, a, 1)
	for _, c := range append(odd(), 2, 3, 4) {
		mustGive(t, a, c, false)
		mustLive(t, a, 0, 1)
	}
	mustHave(t, a, 0, fresh)
	mustHave(t, a, 1, one)
	mustTake(t, a, 2)
}

func TestSetAndGet(t *testing.T) {
	a := arena.New(3)
	for c := range 3 {
		mustTake(t, a, c)
	}
	has := [3][api.Fields]int64{fresh, fresh, fresh}
	for c := range 3 {
		for field := range api.Fields {
			for _, v := range []int64{least, least + 1, -2, -1, 0, 1, 2, 3, 4, 1 << 32, greatest - 1, greatest, int64(100*c + field)} {
				mustSet(t, a, c, field, v, true)
				has[c][field] = v
				mustGet(t, a, c, field, v)
			}
			for d := range 3 { // no other field and no other cell sees it
				mustHave(t, a, d, has[d])
			}
		}
	}
}

// A cell is a number of the arena's, taken or not; next to the two ends it turns.
func TestCell(t *testing.T) {
	a := arena.New(5)
	mustTake(t, a, 0)
	for _, c := range []struct {
		v    int64
		want int
	}{
		{least, api.None}, {least + 4, api.None}, {-1 << 32, api.None}, {-2, api.None}, {-1, api.None}, {0, 0}, {1, 1}, {4, 4},
		{5, api.None}, {6, api.None}, {1 << 16, api.None}, {1 << 32, api.None}, {1<<32 + 1, api.None}, {1 << 48, api.None}, {greatest, api.None},
	} {
		for field := range api.Fields {
			mustSet(t, a, 0, field, c.v, true)
			if got := a.Cell(0, field); got != c.want {
				t.Errorf("P5.2: Cell of %d in field %d: %d, must be %d", c.v, field, got, c.want)
			}
			mustGet(t, a, 0, field, c.v)
		}
	}
	great := arena.New(api.MaxCells)
	mustTake(t, great, 0)
	mustSet(t, great, 0, api.Up, api.MaxCells-1, true)
	mustSet(t, great, 0, api.Down, api.MaxCells, true)
	if up, down := great.Cell(0, api.Up), great.Cell(0, api.Down); up != api.MaxCells-1 || down != api.None {
		t.Errorf("P5.2: Cell of the last one, and of one more: %d, %d", up, down)
	}
}

func TestNoSuchField(t *testing.T) {
	a := arena.New(3)
	for c := range 3 {
		mustTake(t, a, c)
	}
	has := [3][api.Fields]int64{mark(t, a, 0), mark(t, a, 1), mark(t, a, 2)}
	fields := append(odd(), api.Fields, api.Fields+1, 2*api.Fields, -api.Fields, -api.Fields+1)
	for c := range 3 {
		for _, field := range fields {
			mustSet(t, a, c, field, 5, false)
			mustGet(t, a, c, field, api.None)
		}
	}
	for c := range 3 {
		mustHave(t, a, c, has[c])
	}
	mustLive(t, a, 0, 1, 2)
}

func TestCellsThatAreNotTaken(t *testing.T) {
	a := arena.New(4)
	mustTake(t, a, 0)
	mustTake(t, a, 1)
	mark(t, a, 0)
	one := mark(t, a, 1)
	mustGive(t, a, 0, true)
	for _, c := range append(odd(), 0, 2, 3, 4) {
		for field := range api.Fields {
			mustSet(t, a, c, field, 5, false)
			mustGet(t, a, c, field, api.None)
		}
		for _, field := range odd() {
			mustSet(t, a, c, field, 5, false)
			mustGet(t, a, c, field, api.None)
		}
	}
	mustLive(t, a, 1)
	mustHave(t, a, 1, one)
	for _, c := range []int{0, 2, 3} { // what was set in vain is not there later
		mustTake(t, a, c)
		mustHave(t, a, c, fresh)
	}
}

func TestSteps(t *testing.T) {
	a := arena.New(1)
	m := a.Meter()
	calls := []func(){
		func() { a.Take() }, func() { a.Take() }, func() { a.Set(0, api.Key, 3) }, func() { a.Set(0, 99, 3) }, func() { a.Set(1, api.Key, 3) },
		func() { a.Get(0, api.Key) }, func() { a.Get(0, -1) }, func() { a.Get(-1, api.Key) }, func() { a.Cell(0, api.Key) },
		func() { a.Cell(0, api.Up) }, func() { a.Cell(0, 99) }, func() { a.Cell(9, 0) }, func() { a.Give(0) }, func() { a.Give(0) }, func() { a.Give(-1) },
	}
	for i, call := range calls {
		m.Begin()
		call()
		if m.Spent() != 1 || m.Steps() != int64(i+1) || m.Most() != 1 {
			t.Errorf("P5.3: call %d: %d spent, %d steps", i, m.Spent(), m.Steps())
		}
		a.Live(0)
		a.Live(-1)
		a.Len()
		a.Cells()
		if a.Meter() != m || m.Spent() != 1 {
			t.Errorf("P5.3: behind call %d: %d spent by what takes no step", i, m.Spent())
		}
	}
}

// The meter is at work for its holder too: what is ticked there stays, and steps come on top of it.
func TestMeterIsTheArenasOwn(t *testing.T) {
	a := arena.New(1)
	a.Meter().Tick(10)
	mustTake(t, a, 0)
	if got := a.Meter().Steps(); got != 11 {
		t.Errorf("P5.3: 10 ticks and a Take: %d steps", got)
	}
	a.Meter().Tick(greatest)
	a.Get(0, api.Up)
	if got := a.Meter().Steps(); got != greatest {
		t.Errorf("P5.3: a step behind the greatest number: %d", got)
	}
}

func TestArenasStandByThemselves(t *testing.T) {
	a, b := arena.New(2), arena.New(2)
	mustTake(t, a, 0)
	mustTake(t, a, 1)
	has := mark(t, a, 0)
	mustLive(t, b)
	if a.Meter() == b.Meter() || b.Meter().Steps() != 0 {
		t.Fatalf("P5.3: %d steps of an arena that was not called", b.Meter().Steps())
	}
	mustTake(t, b, 0)
	mustHave(t, b, 0, fresh)
	mustSet(t, b, 0, api.Key, 8, true)
	mustGive(t, b, 0, true)
	mustLive(t, a, 0, 1)
	mustHave(t, a, 0, has)
	was := a.Meter().Steps()
	mustGive(t, b, 0, false)
	if a.Meter().Steps() != was {
		t.Errorf("P5.3: a step of another arena's was counted")
	}
}

// plain is the plain answer: what each taken cell has, those given back in a row, and the steps.
type plain struct {
	cells, never int
	has          map[int][api.Fields]int64
	back         []int
	steps        int64
}

func (p *plain) take() (int, bool) {
	c := p.never
	switch last := len(p.back) - 1; {
	case last >= 0:
		c, p.back = p.back[last], p.back[:last]
	case c == p.cells:
		return api.None, false
	default:
		p.never++
	}
	p.has[c] = fresh
	return c, true
}

// number is mostly a cell, now and then any number.
func number(q *rand.Rand, cells int) int64 {
	if q.Intn(8) == 0 {
		return int64(q.Uint64())
	}
	return int64(q.Intn(cells+4) - 2)
}

func TestAgainstPlainCells(t *testing.T) {
	q := rand.New(rand.NewSource(5))
	for run := range 40 {
		cells := q.Intn(12)
		a, p := arena.New(cells), &plain{cells: cells, has: map[int][api.Fields]int64{}}
		for call := range 600 {
			c, field, v := int(number(q, cells)), int(number(q, api.Fields)), number(q, cells)
			row, live := p.has[c]
			there := live && field >= 0 && field < api.Fields
			switch q.Intn(6) {
			case 0:
				if want, ok := p.take(); ok {
					mustTake(t, a, want)
				} else {
					mustTakeNone(t, a)
				}
			case 1:
				mustGive(t, a, c, live)
				if live {
					delete(p.has, c)
					p.back = append(p.back, c)
				}
			case 2, 3:
				mustSet(t, a, c, field, v, there)
				if there {
					row[field] = v
					p.has[c] = row
				}
			default:
				want := int64(api.None)
				if there {
					want = row[field]
				}
				mustGet(t, a, c, field, want)
				p.steps++
			}
			p.steps++
			if got := a.Meter().Steps(); got != p.steps {
				t.Errorf("P5.3: %d steps, must be %d", got, p.steps)
			}
			mustHold(t, a, p)
			if t.Failed() {
				t.Fatalf("run %d, call %d", run, call)
			}
		}
	}
}

// mustHold holds all that the arena has against the plain answer.
func mustHold(t *testing.T, a *arena.Arena, p *plain) {
	t.Helper()
	var taken []int
	for c := range p.cells {
		if row, live := p.has[c]; live {
			taken = append(taken, c)
			mustHave(t, a, c, row)
			p.steps += 2 * api.Fields
		}
	}
	mustLive(t, a, taken...)
}
