package chain_test

import (
	"math"
	"math/rand"
	"slices"
	"testing"

	"thicket/api"
	"thicket/arena"
	"thicket/chain"
)

// mostSteps is what P6.2 allows a call.
const mostSteps = 12

// odd are ints that are no cell of a small arena.
func odd() []int {
	return []int{math.MinInt, math.MinInt + 1, -1 << 32, -api.MaxCells, -2, -1, 99, api.MaxCells - 1, api.MaxCells, 1 << 32, math.MaxInt - 1, math.MaxInt}
}

// taken is an arena of so many cells, all taken, none of them in a ring.
func taken(t *testing.T, cells int) *arena.Arena {
	t.Helper()
	a := arena.New(cells)
	for c := range cells {
		if got, ok := a.Take(); got != c || !ok {
			t.Fatalf("Take: %d %t, must be %d", got, ok, c)
		}
	}
	return a
}

// alone is an arena of so many cells, each of them a ring of its own.
func alone(t *testing.T, cells int) *arena.Arena {
	t.Helper()
	a := taken(t, cells)
	for c := range cells {
		one(t, a, c)
	}
	return a
}

// linked is an arena whose cells, all taken, are in these rings, written there by the arena's own calls.
func linked(t *testing.T, rings ...[]int) *arena.Arena {
	t.Helper()
	cells := 0
	for _, l := range rings {
		cells += len(l)
	}
	a := taken(t, cells)
	for _, l := range rings {
		for i, c := range l {
			d := l[(i+1)%len(l)]
			a.Set(c, api.Right, int64(d))
			a.Set(d, api.Left, int64(c))
		}
	}
	return a
}

// within runs a call and holds the steps that it took against the most that it may take; it takes and gives no cell.
func within(t *testing.T, a *arena.Arena, what string, call func()) {
	t.Helper()
	was, live := a.Meter().Steps(), a.Len()
	call()
	if got := a.Meter().Steps() - was; got > mostSteps {
		t.Errorf("P6.2: %s: %d steps", what, got)
	}
	if a.Len() != live {
		t.Errorf("P6.1: %s: %d cells are taken, %d were", what, a.Len(), live)
	}
}

func one(t *testing.T, a *arena.Arena, c int) {
	t.Helper()
	within(t, a, "One", func() { chain.One(a, c) })
}

func put(t *testing.T, a *arena.Arena, c, d int) {
	t.Helper()
	within(t, a, "Put", func() { chain.Put(a, c, d) })
}

func join(t *testing.T, a *arena.Arena, c, d int) {
	t.Helper()
	within(t, a, "Join", func() { chain.Join(a, c, d) })
}

func out(t *testing.T, a *arena.Arena, c int) int {
	t.Helper()
	var got int
	within(t, a, "Out", func() { got = chain.Out(a, c) })
	return got
}

func mustOut(t *testing.T, a *arena.Arena, c, want int) {
	t.Helper()
	if got := out(t, a, c); got != want {
		t.Errorf("P6.1: Out(%d): %d, must be %d", c, got, want)
	}
}

func mustBeAlone(t *testing.T, a *arena.Arena, c int, want bool) {
	t.Helper()
	within(t, a, "Alone", func() {
		if got := chain.Alone(a, c); got != want {
			t.Errorf("P6.1: Alone(%d): %t", c, got)
		}
	})
}

// turned is the ring from its i-th cell on.
func turned(l []int, i int) []int { return slices.Concat(l[i:], l[:i]) }

// links are Left and Right of the cells 0 to cells - 1.
func links(a *arena.Arena, cells int) []int64 {
	var l []int64
	for c := range cells {
		l = append(l, a.Get(c, api.Left), a.Get(c, api.Right))
	}
	return l
}

// mustBe holds the rings against these, from each of their cells on: what All and Alone tell, and the links themselves. Asking changes nothing.
func mustBe(t *testing.T, a *arena.Arena, rings ...[]int) {
	t.Helper()
	was := links(a, a.Cells())
	for _, l := range rings {
		for i, c := range l {
			want := turned(l, i)
			if got := chain.All(a, c); !slices.Equal(got, want) {
				t.Errorf("P6.1: All(%d): %v, must be %v", c, got, want)
			}
			mustBeAlone(t, a, c, len(l) == 1)
			d := want[1%len(want)]
			if a.Get(c, api.Right) != int64(d) || a.Get(d, api.Left) != int64(c) {
				t.Errorf("P6.1: Right of %d is %d, Left of %d is %d", c, a.Get(c, api.Right), d, a.Get(d, api.Left))
			}
		}
	}
	if !slices.Equal(links(a, a.Cells()), was) {
		t.Errorf("P6.1: All or Alone changed links")
	}
}

func TestRun(t *testing.T) {
	a := taken(t, 2)
	one(t, a, 0)
	one(t, a, 1)
	put(t, a, 0, 1)
	mustBe(t, a, []int{0, 1})
}

func TestOne(t *testing.T) {
	a := taken(t, 3)
	one(t, a, 1)
	mustBe(t, a, []int{1})
	for _, c := range []int{0, 2} {
		if a.Get(c, api.Left) != api.None || a.Get(c, api.Right) != api.None {
			t.Errorf("P6.1: One(1) linked %d", c)
		}
	}
	one(t, a, 0)
	one(t, a, 2)
	mustBe(t, a, []int{0}, []int{1}, []int{2})
	one(t, a, 1) // once more
	mustBe(t, a, []int{0}, []int{1}, []int{2})
}

func TestOneOfARing(t *testing.T) {
	a := linked(t, []int{0, 1, 2, 3}, []int{4, 5})
	one(t, a, 1)
	mustBe(t, a, []int{0, 2, 3}, []int{1}, []int{4, 5})
	one(t, a, 5)
	mustBe(t, a, []int{0, 2, 3}, []int{1}, []int{4}, []int{5})
}

// What a cell has in Left and Right from earlier doesn't keep it from being a ring, and is no way into another ring.
func TestOneOfLeftoverLinks(t *testing.T) {
	for _, v := range []int64{math.MinInt64, -2, api.None, 0, 1, 2, 3, 4, math.MaxInt64} {
		for _, w := range []int64{math.MinInt64, -2, api.None, 0, 1, 2, 3, 4, math.MaxInt64} {
			for _, call := range []func(a *arena.Arena){
				func(a *arena.Arena) { one(t, a, 3) },
				func(a *arena.Arena) { out(t, a, 3) },
			} {
				a := linked(t, []int{0, 1, 2}, []int{3})
				a.Set(3, api.Left, v)
				a.Set(3, api.Right, w)
				call(a)
				mustBe(t, a, []int{0, 1, 2}, []int{3})
			}
		}
	}
}

func TestPut(t *testing.T) {
	a := alone(t, 5)
	put(t, a, 0, 1)
	mustBe(t, a, []int{0, 1}, []int{2}, []int{3}, []int{4})
	put(t, a, 0, 2) // behind the first, ahead of what was there
	mustBe(t, a, []int{0, 2, 1}, []int{3}, []int{4})
	put(t, a, 1, 3) // behind the last
	mustBe(t, a, []int{0, 2, 1, 3}, []int{4})
	put(t, a, 2, 4)
	mustBe(t, a, []int{0, 2, 4, 1, 3})
}

// A cell that is in no ring is put as one that is alone, whatever it has in Left and Right.
func TestPutOfOneInNoRing(t *testing.T) {
	a := taken(t, 3)
	one(t, a, 0)
	put(t, a, 0, 1)
	mustBe(t, a, []int{0, 1})
	put(t, a, 0, 2)
	mustBe(t, a, []int{0, 2, 1})
	for _, v := range []int64{math.MinInt64, -2, api.None, 0, 1, 2, 3, 4, 5, math.MaxInt64} {
		for _, w := range []int64{math.MinInt64, -2, api.None, 0, 1, 2, 3, 4, 5, math.MaxInt64} {
			a := linked(t, []int{0, 1}, []int{2, 3}, []int{4})
			a.Set(4, api.Left, v)
			a.Set(4, api.Right, w)
			put(t, a, 0, 4)
			mustBe(t, a, []int{0, 4, 1}, []int{2, 3})
		}
	}
}

// A row that is no ring, for it has ends: each cell of it can be put.
func TestPutOfOneInARow(t *testing.T) {
	for d := 2; d <= 4; d++ {
		a := linked(t, []int{0, 1}, []int{2, 3, 4})
		a.Set(2, api.Left, api.None)
		a.Set(4, api.Right, api.None)
		put(t, a, 1, d)
		mustBe(t, a, []int{0, 1, d})
	}
}

func TestJoin(t *testing.T) {
	for _, c := range []struct {
		x, y, want []int
	}{
		{[]int{0}, []int{1}, []int{0, 1}},
		{[]int{1}, []int{0}, []int{1, 0}},
		{[]int{0}, []int{1, 2, 3}, []int{0, 1, 2, 3}},
		{[]int{0, 1, 2}, []int{3}, []int{0, 3, 1, 2}},
		{[]int{0, 1}, []int{2, 3}, []int{0, 2, 3, 1}},
		{[]int{4, 2, 0}, []int{3, 5, 1}, []int{4, 3, 5, 1, 2, 0}},
		{[]int{0, 1, 2, 3}, []int{4, 5}, []int{0, 4, 5, 1, 2, 3}},
	} {
		a := linked(t, c.x, c.y)
		join(t, a, c.x[0], c.y[0])
		mustBe(t, a, c.want)
	}
}

// Behind c comes d, and behind the one ahead of d what was behind c: whichever cells of two rings they are.
func TestJoinAtEachCell(t *testing.T) {
	x, y := []int{0, 3, 5, 1}, []int{2, 6, 4}
	for i := range x {
		for j := range y {
			a := linked(t, x, y)
			join(t, a, x[i], y[j])
			mustBe(t, a, slices.Concat(x[:i+1], turned(y, j), x[i+1:]))
		}
	}
}

func TestOut(t *testing.T) {
	a := linked(t, []int{0, 3, 1, 2}, []int{4})
	mustOut(t, a, 4, api.None)
	mustBe(t, a, []int{0, 3, 1, 2}, []int{4})
	mustOut(t, a, 3, 1)
	mustBe(t, a, []int{0, 1, 2}, []int{3}, []int{4})
	mustOut(t, a, 3, api.None) // it is alone now
	mustBe(t, a, []int{0, 1, 2}, []int{3}, []int{4})
	mustOut(t, a, 2, 0)
	mustBe(t, a, []int{0, 1}, []int{2}, []int{3}, []int{4})
	mustOut(t, a, 0, 1) // the one that stays is alone
	mustBe(t, a, []int{0}, []int{1}, []int{2}, []int{3}, []int{4})
	mustOut(t, a, 1, api.None)
	mustBe(t, a, []int{0}, []int{1}, []int{2}, []int{3}, []int{4})
}

func TestOutOfEachCell(t *testing.T) {
	l := []int{2, 0, 4, 1, 3}
	for n := 1; n <= len(l); n++ {
		for i := range n {
			rest := []int{}
			for _, c := range l {
				if !slices.Contains(l[:n], c) {
					rest = append(rest, c)
				}
			}
			a := linked(t, l[:n], rest)
			want := turned(l[:n], i)
			next := api.None
			if n > 1 {
				next = want[1]
			}
			mustOut(t, a, l[i], next)
			mustBe(t, a, want[:1], want[1:], rest)
		}
	}
}

// A cell that was taken out can be put into any ring again.
func TestOutAndPut(t *testing.T) {
	a := linked(t, []int{0, 1, 2}, []int{3, 4})
	mustOut(t, a, 1, 2)
	put(t, a, 3, 1)
	mustBe(t, a, []int{0, 2}, []int{3, 1, 4})
	mustOut(t, a, 1, 4)
	put(t, a, 2, 1)
	mustBe(t, a, []int{0, 2, 1}, []int{3, 4})
}

func TestAllIsNewMemory(t *testing.T) {
	a := linked(t, []int{0, 1, 2})
	l, m := chain.All(a, 0), chain.All(a, 0)
	for i := range l[:cap(l)] {
		l[:cap(l)][i] = 77
	}
	if !slices.Equal(m, []int{0, 1, 2}) {
		t.Errorf("R2: a second answer was changed with the first: %v", m)
	}
	mustBe(t, a, []int{0, 1, 2})
	mustOut(t, a, 1, 2)
	chain.All(a, 0)
	if !slices.Equal(m, []int{0, 1, 2}) {
		t.Errorf("R2: an earlier answer was changed by later calls: %v", m)
	}
}

func TestAloneAsksRight(t *testing.T) {
	a := taken(t, 3)
	mustBeAlone(t, a, 0, false) // in no ring: its Right is None
	a.Set(0, api.Left, 0)
	mustBeAlone(t, a, 0, false)
	a.Set(0, api.Right, 1)
	mustBeAlone(t, a, 0, false)
	a.Set(0, api.Right, 0)
	mustBeAlone(t, a, 0, true)
}

// The steps do not hang on how great a ring is; All goes once round the greatest.
func TestGreatestRing(t *testing.T) {
	a := alone(t, api.MaxCells)
	half := api.MaxCells / 2
	for c := 1; c < half; c++ {
		put(t, a, c-1, c)
		put(t, a, half+c-1, half+c)
	}
	join(t, a, half-1, half)
	l := chain.All(a, 5)
	if len(l) != api.MaxCells {
		t.Fatalf("P6.1: All: %d of %d cells", len(l), api.MaxCells)
	}
	for i, c := range l {
		if c != (5+i)%api.MaxCells {
			t.Fatalf("P6.1: All: %d at %d", c, i)
		}
	}
	mustBeAlone(t, a, 7, false)
	mustOut(t, a, api.MaxCells-1, 0)
	if got := chain.All(a, 0); len(got) != api.MaxCells-1 {
		t.Errorf("P6.1: All behind Out: %d cells", len(got))
	}
}

// Rings are Left and Right alone: all else that cells have stays.
func TestOtherFieldsStay(t *testing.T) {
	a := alone(t, 4)
	fields := []int{api.Up, api.Down, api.Rank, api.Mark, api.Item, api.Key, api.Serial, api.Node}
	for c := range 4 {
		for _, f := range fields {
			a.Set(c, f, int64(100*c+f))
		}
	}
	put(t, a, 0, 1)
	put(t, a, 2, 3)
	join(t, a, 1, 3)
	mustOut(t, a, 2, 0)
	one(t, a, 2)
	mustBe(t, a, []int{0, 1, 3}, []int{2})
	for c := range 4 {
		for _, f := range fields {
			if got := a.Get(c, f); got != int64(100*c+f) {
				t.Errorf("P6.1: field %d of %d: %d", f, c, got)
			}
		}
	}
}

// call makes one of the calls that change links.
func call(t *testing.T, a *arena.Arena, which, c, d int) {
	t.Helper()
	switch which {
	case 0:
		one(t, a, c)
	case 1:
		put(t, a, c, d)
	case 2:
		join(t, a, c, d)
	default:
		out(t, a, c)
	}
}

// Calls of what is no cell, or of one that is not taken, change no ring.
func TestOfNone(t *testing.T) {
	a := linked(t, []int{0, 1, 2}, []int{3}, []int{4, 5, 6})
	a.Give(6) // 4 and 5 still point there
	a.Give(5)
	rings := [][]int{{0, 1, 2}, {3}}
	was := links(a, 7)
	for _, c := range append(odd(), 5, 6, 7) {
		for which := range 4 {
			for _, d := range append(odd(), 0, 3, 5, 6, 7) {
				call(t, a, which, c, d)
			}
		}
		for _, d := range []int{0, 1, 3} {
			put(t, a, d, c)
			join(t, a, d, c)
		}
		mustOut(t, a, c, api.None)
		mustBeAlone(t, a, c, false)
		if got := chain.All(a, c); len(got) != 0 {
			t.Errorf("R1: All(%d): %v", c, got)
		}
	}
	mustBe(t, a, rings...)
	if !slices.Equal(links(a, 7), was) {
		t.Errorf("R1: links were changed by calls of no cells")
	}
}

func TestNoCells(t *testing.T) {
	a := arena.New(0)
	for _, c := range append(odd(), 0) {
		for which := range 4 {
			call(t, a, which, c, 0)
			call(t, a, which, 0, c)
		}
		mustOut(t, a, c, api.None)
		mustBeAlone(t, a, c, false)
		if got := chain.All(a, c); len(got) != 0 {
			t.Errorf("R1: All(%d): %v", c, got)
		}
	}
}

func TestNilArena(t *testing.T) {
	for _, c := range append(odd(), 0, 1) {
		for _, d := range append(odd(), 0, 1) {
			chain.One(nil, c)
			chain.Put(nil, c, d)
			chain.Join(nil, c, d)
			if chain.Out(nil, c) != api.None || len(chain.All(nil, c)) != 0 || chain.Alone(nil, c) {
				t.Errorf("R1: Out, All, Alone of a nil arena: %d, %v, %t", chain.Out(nil, c), chain.All(nil, c), chain.Alone(nil, c))
			}
		}
	}
}

// Of a cell that is in no ring nothing is promised, but that no ring is changed by it.
func TestOfCellsInNoRing(t *testing.T) {
	for _, v := range []int64{math.MinInt64, api.None, 0, 1, 2, 3, 4, 5, math.MaxInt64} {
		for _, w := range []int64{math.MinInt64, api.None, 0, 1, 2, 5, math.MaxInt64} {
			for which := range 4 {
				a := linked(t, []int{0, 1, 2}, []int{3}, []int{4})
				a.Set(4, api.Left, v)
				a.Set(4, api.Right, w)
				call(t, a, which, 4, 3)
				if got := chain.All(a, 4); len(got) > a.Cells() {
					t.Errorf("R1: All tells %d of %d cells", len(got), a.Cells())
				}
				mustBe(t, a, []int{0, 1, 2})
			}
		}
	}
}

// Of one ring twice nothing is promised, but that no other ring is changed by it.
func TestOfOneRingTwice(t *testing.T) {
	for c := range 4 {
		for d := range 4 {
			for which := range 4 {
				a := linked(t, []int{0, 1, 2, 3}, []int{4, 5}, []int{6})
				call(t, a, which, c, d)
				for e := range 4 {
					if got := chain.All(a, e); len(got) > a.Cells() {
						t.Errorf("R1: All tells %d of %d cells", len(got), a.Cells())
					}
				}
				mustBe(t, a, []int{4, 5}, []int{6})
			}
		}
	}
}

// A d that is in another ring is not left in two.
func TestPutOutOfARing(t *testing.T) {
	a := linked(t, []int{0, 1}, []int{2, 3, 4})
	put(t, a, 0, 3)
	mustBe(t, a, []int{0, 3, 1}, []int{2, 4})
}

// Within one ring a Put leaves it one, d next behind c; of a cell behind itself it is nothing.
func TestPutWithinARing(t *testing.T) {
	for c, want := range map[int][]int{0: {0, 2, 1, 3}, 1: {0, 1, 2, 3}, 2: {0, 1, 2, 3}, 3: {0, 1, 3, 2}} {
		a := linked(t, []int{0, 1, 2, 3})
		put(t, a, c, 2)
		mustBe(t, a, want)
	}
}

// Of one ring twice a Join makes two.
func TestJoinWithinARing(t *testing.T) {
	a := linked(t, []int{0, 1, 2, 3, 4})
	join(t, a, 0, 3)
	mustBe(t, a, []int{0, 3, 4}, []int{1, 2})
	join(t, a, 0, 3) // it is next behind already
	mustBe(t, a, []int{0, 3, 4}, []int{1, 2})
	join(t, a, 4, 4)
	mustBe(t, a, []int{0, 3}, []int{4}, []int{1, 2})
}

// Whatever stands in Left and Right, and whatever is called: calls end, within their steps, and All tells Cells at most.
func TestAnyLinks(t *testing.T) {
	q := rand.New(rand.NewSource(6))
	for run := range 2000 {
		cells := 1 + q.Intn(8)
		a := alone(t, cells)
		for range q.Intn(3 * cells) {
			a.Set(q.Intn(cells), api.Left+q.Intn(2), int64(q.Intn(cells+3)-2))
		}
		if q.Intn(3) == 0 {
			a.Give(q.Intn(cells))
		}
		for range 12 {
			call(t, a, q.Intn(4), q.Intn(cells+3)-2, q.Intn(cells+3)-2)
			c := q.Intn(cells+3) - 2
			within(t, a, "Alone", func() { chain.Alone(a, c) })
			if got := chain.All(a, c); len(got) > cells {
				t.Fatalf("R1: run %d: All tells %d of %d cells", run, len(got), cells)
			}
		}
	}
}

func TestArenasStandByThemselves(t *testing.T) {
	a, b := linked(t, []int{0, 1, 2}), linked(t, []int{0}, []int{1}, []int{2})
	was := b.Meter().Steps()
	mustOut(t, a, 0, 1)
	join(t, a, 2, 0)
	mustBe(t, a, []int{1, 2, 0})
	if b.Meter().Steps() != was {
		t.Errorf("P6.2: steps of one arena were counted in another")
	}
	mustBe(t, b, []int{0}, []int{1}, []int{2})
	put(t, b, 2, 0)
	mustBe(t, b, []int{2, 0}, []int{1})
	mustBe(t, a, []int{1, 2, 0})
}

// plain is the plain answer: the rings as lists.
type plain [][]int

// from takes the ring that c is in out of the lists and tells it from c on.
func (p *plain) from(c int) []int {
	for i, l := range *p {
		if j := slices.Index(l, c); j >= 0 {
			*p = slices.Delete(*p, i, i+1)
			return turned(l, j)
		}
	}
	return nil
}

// add lays rings in, but for empty ones.
func (p *plain) add(rings ...[]int) {
	for _, l := range rings {
		if len(l) > 0 {
			*p = append(*p, l)
		}
	}
}

// step makes one call that is promised, of the arena and of the plain rings both.
func step(t *testing.T, q *rand.Rand, a *arena.Arena, p *plain) {
	t.Helper()
	c, d := q.Intn(a.Cells()), q.Intn(a.Cells())
	x := p.from(c)
	switch which := q.Intn(4); {
	case which == 0:
		want := api.None
		if len(x) > 1 {
			want = x[1]
		}
		mustOut(t, a, c, want)
		p.add(x[:1:1], x[1:])
	case which == 1 && len(x) == 1:
		one(t, a, c)
		p.add(x)
	case slices.Contains(x, d):
		p.add(x)
	default:
		y := p.from(d)
		if len(y) == 1 && which == 2 {
			put(t, a, c, d)
		} else {
			join(t, a, c, d)
		}
		p.add(slices.Concat(x[:1], y, x[1:]))
	}
}

func TestAgainstPlainRings(t *testing.T) {
	q := rand.New(rand.NewSource(7))
	for run := range 60 {
		a, p := alone(t, 1+q.Intn(14)), &plain{}
		for c := range a.Cells() {
			p.add([]int{c})
		}
		for n := range 150 {
			step(t, q, a, p)
			mustBe(t, a, *p...)
			if t.Failed() {
				t.Fatalf("run %d, call %d", run, n)
			}
		}
	}
}
