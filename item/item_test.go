package item_test

import (
	"math"
	"math/rand"
	"slices"
	"testing"

	"thicket/api"
	"thicket/arena"
	"thicket/item"
)

const (
	greatest = math.MaxInt64
	least    = math.MinInt64
)

// mostSteps is what P7.2 allows a call.
const mostSteps = 20

// odd are ints that are no cell of a small arena.
func odd() []int {
	return []int{math.MinInt, math.MinInt + 1, -1 << 32, -api.MaxCells, -2, -1, 99, api.MaxCells - 1, api.MaxCells, 1 << 32, math.MaxInt - 1, math.MaxInt}
}

// edges are keys and serials next to where numbers end or change their sign.
func edges() []int64 {
	return []int64{least, least + 1, -1 << 32, -2, -1, 0, 1, 2, 5, 1 << 32, greatest - 1, greatest}
}

func entry(key, serial int64) api.Entry { return api.Entry{Key: key, Serial: serial} }

// within runs a call and holds the steps that it took against the most that it may take.
func within(t *testing.T, a *arena.Arena, what string, call func()) {
	t.Helper()
	was := a.Meter().Steps()
	call()
	if got := a.Meter().Steps() - was; got > mostSteps {
		t.Errorf("P7.2: %s: %d steps", what, got)
	}
}

// mustNew makes an item: it is the cell that the arena gives out next.
func mustNew(t *testing.T, a *arena.Arena, key, serial int64, want int) int {
	t.Helper()
	within(t, a, "New", func() {
		if i, ok := item.New(a, key, serial); i != want || !ok {
			t.Errorf("P7.1: New(%d, %d): %d %t, must be %d", key, serial, i, ok, want)
		}
	})
	mustBe(t, a, want, entry(key, serial))
	mustHaveNode(t, a, want, api.None)
	return want
}

func mustNewNone(t *testing.T, a *arena.Arena) {
	t.Helper()
	within(t, a, "New of none left", func() {
		if i, ok := item.New(a, 1, 2); i != api.None || ok {
			t.Errorf("P7.1: New of none left: %d %t", i, ok)
		}
	})
}

func mustBe(t *testing.T, a *arena.Arena, i int, want api.Entry) {
	t.Helper()
	within(t, a, "Entry", func() {
		if got := item.Entry(a, i); got != want {
			t.Errorf("P7.1: Entry(%d): %v, must be %v", i, got, want)
		}
	})
}

func mustBeBefore(t *testing.T, a *arena.Arena, i, j int, want bool) {
	t.Helper()
	within(t, a, "Before", func() {
		if got := item.Before(a, i, j); got != want {
			t.Errorf("P7.1: Before(%d, %d): %t; entries %v, %v", i, j, got, item.Entry(a, i), item.Entry(a, j))
		}
	})
}

func mustLower(t *testing.T, a *arena.Arena, i int, key int64, want bool) {
	t.Helper()
	within(t, a, "Lower", func() {
		if got := item.Lower(a, i, key); got != want {
			t.Errorf("P7.1: Lower(%d, %d): %t", i, key, got)
		}
	})
}

func mustHaveNode(t *testing.T, a *arena.Arena, i, want int) {
	t.Helper()
	within(t, a, "Node", func() {
		if got := item.Node(a, i); got != want {
			t.Errorf("P7.1: Node(%d): %d, must be %d", i, got, want)
		}
	})
}

func put(t *testing.T, a *arena.Arena, n, i int) {
	t.Helper()
	within(t, a, "Put", func() { item.Put(a, n, i) })
}

func swap(t *testing.T, a *arena.Arena, n, m int) {
	t.Helper()
	within(t, a, "Swap", func() { item.Swap(a, n, m) })
}

// mustHold tells that a node and an item are one another's, by the calls and by the fields themselves.
func mustHold(t *testing.T, a *arena.Arena, n, i int) {
	t.Helper()
	if got := a.Get(n, api.Item); got != int64(i) {
		t.Errorf("P7.1: Item of %d: %d, must be %d", n, got, i)
	}
	if i == api.None {
		return
	}
	mustHaveNode(t, a, i, n)
	if got := a.Get(i, api.Node); got != int64(n) {
		t.Errorf("P7.1: Node of %d: %d, must be %d", i, got, n)
	}
}

// take is so many cells that are just taken.
func take(t *testing.T, a *arena.Arena, cells int) []int {
	t.Helper()
	var l []int
	for range cells {
		c, ok := a.Take()
		if !ok {
			t.Fatalf("Take: none left")
		}
		l = append(l, c)
	}
	return l
}

// held is an arena with so many items, 0 and so on, behind them as many nodes that have them, and two cells that are not taken.
func held(t *testing.T, items int) (*arena.Arena, []int) {
	t.Helper()
	a := arena.New(2*items + 2)
	for i := range items {
		mustNew(t, a, int64(10*i), int64(i), i)
	}
	nodes := take(t, a, items)
	for i, n := range nodes {
		put(t, a, n, i)
		mustHold(t, a, n, i)
	}
	return a, nodes
}

// whole is all that the cells have, and which of them are taken.
func whole(a *arena.Arena) []int64 {
	var l []int64
	for c := range a.Cells() {
		if !a.Live(c) {
			l = append(l, greatest)
			continue
		}
		for field := range api.Fields {
			l = append(l, a.Get(c, field))
		}
	}
	return l
}

// mustStay runs calls that must change nothing.
func mustStay(t *testing.T, a *arena.Arena, what string, calls func()) {
	t.Helper()
	was, live := whole(a), a.Len()
	calls()
	if !slices.Equal(whole(a), was) || a.Len() != live {
		t.Errorf("%s: something has changed", what)
	}
}

// mustChange runs calls that must change just these fields of these cells, by rising cell.
func mustChange(t *testing.T, a *arena.Arena, what string, calls func(), want ...[2]int) {
	t.Helper()
	was := whole(a)
	calls()
	var got [][2]int
	for at, v := range whole(a) {
		if v != was[at] {
			got = append(got, [2]int{at / api.Fields, at % api.Fields})
		}
	}
	if !slices.Equal(got, want) {
		t.Errorf("P7.1: %s: fields %v have changed, must be %v", what, got, want)
	}
}

// marked is an arena whose cells are all taken and have something of their own in each field but Item and Node.
func marked(t *testing.T, cells int) *arena.Arena {
	t.Helper()
	a := arena.New(cells)
	for _, c := range take(t, a, cells) {
		for field := range api.Fields {
			if field != api.Item && field != api.Node {
				a.Set(c, field, int64(1000*(c+1)+field))
			}
		}
	}
	return a
}

func TestRun(t *testing.T) {
	a := arena.New(1)
	i, ok := item.New(a, 5, 0)
	if !ok || item.Entry(a, i) != entry(5, 0) {
		t.Errorf("P7.1: New(5, 0): Entry: %v, %t", item.Entry(a, i), ok)
	}
}

func TestNew(t *testing.T) {
	a := arena.New(4)
	mustNew(t, a, 7, 1, 0)
	mustNew(t, a, 7, 1, 1) // the same once more is another item
	mustNew(t, a, -3, -4, 2)
	if a.Len() != 3 {
		t.Errorf("P7.1: %d cells are taken for 3 items", a.Len())
	}
	mustNew(t, a, 0, 9, 3)
	mustStay(t, a, "P7.1: New of none left", func() {
		mustNewNone(t, a)
		mustNewNone(t, a)
	})
	mustBe(t, a, 0, entry(7, 1))
	mustBe(t, a, 1, entry(7, 1))
	mustBe(t, a, 2, entry(-3, -4))
	a.Give(1)
	mustNew(t, a, 8, 8, 1)
	mustNewNone(t, a)
}

func TestNewOfNoCells(t *testing.T) {
	for _, cells := range []int{math.MinInt, -1, 0} {
		mustNewNone(t, arena.New(cells))
	}
}

// A key and a serial are told as they came, each of them by itself.
func TestNewOfAnyNumbers(t *testing.T) {
	a := arena.New(1)
	for _, key := range edges() {
		for _, serial := range edges() {
			mustNew(t, a, key, serial, 0)
			a.Give(0)
		}
	}
}

// But for its Key and Serial an item is as it was taken, whatever the cell had earlier.
func TestNewIsFresh(t *testing.T) {
	a := arena.New(2)
	for _, c := range take(t, a, 2) {
		for field := range api.Fields {
			a.Set(c, field, 77)
		}
	}
	a.Give(1)
	mustNew(t, a, 3, 4, 1)
	want := [api.Fields]int64{
		api.Up: api.None, api.Down: api.None, api.Left: api.None, api.Right: api.None,
		api.Item: api.None, api.Key: 3, api.Serial: 4, api.Node: api.None,
	}
	for field, v := range want {
		if got := a.Get(1, field); got != v {
			t.Errorf("P7.1: field %d of a new item: %d, must be %d", field, got, v)
		}
		if got := a.Get(0, field); got != 77 {
			t.Errorf("P7.1: field %d of another cell: %d", field, got)
		}
	}
}

func TestNewOfAllCells(t *testing.T) {
	a := arena.New(api.MaxCells)
	for c := range api.MaxCells {
		if i, ok := item.New(a, int64(c), int64(-c)); i != c || !ok {
			t.Fatalf("P7.1: New: %d %t, must be %d", i, ok, c)
		}
	}
	mustNewNone(t, a)
	for _, c := range []int{0, 1, api.MaxCells / 2, api.MaxCells - 1} {
		mustBe(t, a, c, entry(int64(c), int64(-c)))
	}
	last := api.MaxCells - 1
	mustBeBefore(t, a, 0, last, true)
	mustBeBefore(t, a, last, 0, false)
	put(t, a, 0, last)
	mustHold(t, a, 0, last)
	put(t, a, last, 0)
	swap(t, a, 0, last)
	mustHold(t, a, 0, 0)
	mustHold(t, a, last, last)
}

func TestEntry(t *testing.T) {
	a := marked(t, 3)
	mustStay(t, a, "P7.1: Entry", func() {
		for c := range 3 {
			mustBe(t, a, c, entry(int64(1000*(c+1)+api.Key), int64(1000*(c+1)+api.Serial)))
		}
	})
}

func TestBefore(t *testing.T) {
	for _, c := range []struct {
		x, y api.Entry // of the items 0 and 1
		want bool
	}{
		{entry(1, 0), entry(2, 0), true},
		{entry(2, 0), entry(1, 0), false},
		{entry(1, 9), entry(2, 0), true}, // the Key comes ahead of the Serial
		{entry(2, 0), entry(1, 9), false},
		{entry(4, 1), entry(4, 2), true},
		{entry(4, 2), entry(4, 1), false}, // and the Serial ahead of the cell
		{entry(4, 2), entry(4, 2), true},
		{entry(-1, -1), entry(-1, -1), true},
		{entry(0, 0), entry(0, 0), true},
		{entry(least, greatest), entry(greatest, least), true},
		{entry(greatest, least), entry(least, greatest), false},
		{entry(least, least), entry(least, greatest), true},
		{entry(greatest, greatest), entry(greatest, least), false},
		{entry(least, least), entry(least, least), true},
		{entry(greatest, greatest), entry(greatest, greatest), true},
		{entry(least, 0), entry(1, 0), true}, // their difference is no int64
		{entry(1, 0), entry(least, 0), false},
	} {
		a := arena.New(2)
		mustNew(t, a, c.x.Key, c.x.Serial, 0)
		mustNew(t, a, c.y.Key, c.y.Serial, 1)
		mustBeBefore(t, a, 0, 1, c.want)
		mustBeBefore(t, a, 1, 0, !c.want)
		mustBeBefore(t, a, 0, 0, false)
		mustBeBefore(t, a, 1, 1, false)
	}
}

// Of two that are the same the lower item: that is the cell, not what was made first.
func TestBeforeOfTheSame(t *testing.T) {
	a := arena.New(3)
	mustNew(t, a, 5, 3, 0)
	mustNew(t, a, 5, 3, 1)
	mustNew(t, a, 5, 3, 2)
	a.Give(0)
	mustNew(t, a, 5, 3, 0)
	for i := range 3 {
		for j := range 3 {
			mustBeBefore(t, a, i, j, i < j)
		}
	}
}

// Where an item is, and what else its cell has, is nothing to its order.
func TestBeforeAsksKeyAndSerialAlone(t *testing.T) {
	a, nodes := held(t, 2)
	for field := range api.Fields {
		if field == api.Key || field == api.Serial {
			continue
		}
		for _, v := range []int64{least, greatest} {
			a.Set(0, field, v)
			a.Set(1, field, -v-1)
			mustBeBefore(t, a, 0, 1, true)
			mustBeBefore(t, a, 1, 0, false)
		}
	}
	mustStay(t, a, "P7.1: Before", func() {
		mustBeBefore(t, a, 0, 1, true)
		mustBeBefore(t, a, nodes[0], nodes[1], true)
	})
}

// All of them are in one order, that of a plain list sorted by Key, Serial and cell.
func TestBeforeOfAnyEntries(t *testing.T) {
	var all []api.Entry
	for _, key := range edges() {
		for _, serial := range []int64{least, -1, 0, 1, greatest} {
			all = append(all, entry(key, serial), entry(key, serial))
		}
	}
	q := rand.New(rand.NewSource(1))
	at := q.Perm(len(all)) // all is sorted; the entry at place at[i] becomes item i
	a := arena.New(len(all))
	for i, p := range at {
		mustNew(t, a, all[p].Key, all[p].Serial, i)
	}
	for i, p := range at {
		for j, r := range at {
			want := p < r
			if all[p] == all[r] {
				want = i < j
			}
			mustBeBefore(t, a, i, j, want)
		}
	}
}

func TestLower(t *testing.T) {
	a := arena.New(2)
	mustNew(t, a, 5, 3, 0)
	mustNew(t, a, 5, 4, 1)
	mustStay(t, a, "P7.1: Lower to a greater key", func() {
		mustLower(t, a, 0, 6, false)
		mustLower(t, a, 0, greatest, false)
	})
	mustStay(t, a, "P7.1: Lower to the same key", func() { mustLower(t, a, 0, 5, true) })
	mustLower(t, a, 0, 4, true)
	mustBe(t, a, 0, entry(4, 3))
	mustLower(t, a, 0, 5, false) // the Key that it had is above it now
	mustBe(t, a, 0, entry(4, 3))
	mustBe(t, a, 1, entry(5, 4))
	mustLower(t, a, 1, -9, true)
	mustBe(t, a, 1, entry(-9, 4))
	mustBeBefore(t, a, 1, 0, true)
	mustLower(t, a, 1, least, true)
	mustLower(t, a, 1, least, true)
	mustBe(t, a, 1, entry(least, 4))
}

func TestLowerOfAnyKeys(t *testing.T) {
	for _, from := range edges() {
		for _, to := range edges() {
			a := arena.New(1)
			mustNew(t, a, from, 8, 0)
			mustLower(t, a, 0, to, to <= from)
			mustBe(t, a, 0, entry(min(from, to), 8))
		}
	}
}

func TestNode(t *testing.T) {
	a, nodes := held(t, 2)
	free := take(t, a, 1)[0]
	mustStay(t, a, "P7.1: Node", func() {
		mustHaveNode(t, a, 0, nodes[0])
		mustHaveNode(t, a, 1, nodes[1])
		mustHaveNode(t, a, free, api.None)
	})
	a.Set(1, api.Node, api.None)
	mustHaveNode(t, a, 1, api.None)
}

// A Node is a cell: any other number there is None.
func TestNodeOfNoCell(t *testing.T) {
	a := arena.New(3)
	mustNew(t, a, 1, 1, 0)
	for _, v := range []int64{least, -2, -1, 3, 4, 1 << 32, greatest} {
		a.Set(0, api.Node, v)
		mustHaveNode(t, a, 0, api.None)
	}
	a.Set(0, api.Node, 2)
	mustHaveNode(t, a, 0, 2)
}

func TestPut(t *testing.T) {
	a := marked(t, 5)
	mustChange(t, a, "Put(3, 1)", func() { put(t, a, 3, 1) }, [2]int{1, api.Node}, [2]int{3, api.Item})
	mustHold(t, a, 3, 1)
	mustChange(t, a, "Put(2, 4)", func() { put(t, a, 2, 4) }, [2]int{2, api.Item}, [2]int{4, api.Node})
	mustHold(t, a, 3, 1)
	mustHold(t, a, 2, 4)
	mustStay(t, a, "P7.1: Put once more", func() { put(t, a, 2, 4) })
	mustChange(t, a, "Put(0, 0)", func() { put(t, a, 0, 0) }, [2]int{0, api.Item}, [2]int{0, api.Node})
	mustHold(t, a, 0, 0)
}

// An item that is in a node may be put into another one; a node that has an item may get another one.
func TestPutAgain(t *testing.T) {
	a, nodes := held(t, 2)
	put(t, a, nodes[0], 1)
	put(t, a, nodes[1], 0)
	mustHold(t, a, nodes[0], 1)
	mustHold(t, a, nodes[1], 0)
	n := take(t, a, 1)[0]
	put(t, a, n, 1)
	mustHold(t, a, n, 1)
	mustHold(t, a, nodes[1], 0)
}

// None on one side is as the words say: the other one's field is None.
func TestPutOfNone(t *testing.T) {
	a, nodes := held(t, 2)
	mustChange(t, a, "Put(None, 0)", func() { put(t, a, api.None, 0) }, [2]int{0, api.Node})
	mustHaveNode(t, a, 0, api.None)
	mustChange(t, a, "Put(n, None)", func() { put(t, a, nodes[0], api.None) }, [2]int{nodes[0], api.Item})
	mustHold(t, a, nodes[0], api.None)
	mustHold(t, a, nodes[1], 1)
	mustStay(t, a, "R1: Put(None, None)", func() { put(t, a, api.None, api.None) })
}

func TestSwap(t *testing.T) {
	a := marked(t, 6)
	put(t, a, 3, 0)
	put(t, a, 4, 1)
	put(t, a, 5, 2)
	changed := [][2]int{{0, api.Node}, {1, api.Node}, {3, api.Item}, {4, api.Item}}
	mustChange(t, a, "Swap(3, 4)", func() { swap(t, a, 3, 4) }, changed...)
	mustHold(t, a, 3, 1)
	mustHold(t, a, 4, 0)
	mustHold(t, a, 5, 2)
	mustChange(t, a, "Swap(4, 3)", func() { swap(t, a, 4, 3) }, changed...)
	mustHold(t, a, 3, 0)
	mustHold(t, a, 4, 1)
	swap(t, a, 3, 4)
	swap(t, a, 5, 3)
	mustHold(t, a, 3, 2)
	mustHold(t, a, 4, 0)
	mustHold(t, a, 5, 1)
}

func TestSwapOfItself(t *testing.T) {
	a, nodes := held(t, 2)
	free := take(t, a, 1)[0]
	a.Set(nodes[1], api.Item, 0) // not the node that 0 has
	mustStay(t, a, "P7.1: Swap of one and itself", func() {
		for _, n := range append(nodes, free) {
			swap(t, a, n, n)
		}
	})
}

// The one item goes over, and the node that had it has none.
func TestSwapOfANodeWithoutItem(t *testing.T) {
	for turned := range 2 {
		a, nodes := held(t, 2)
		free := take(t, a, 2)
		changed := [][2]int{{1, api.Node}, {nodes[1], api.Item}, {free[0], api.Item}}
		pair := [2]int{nodes[1], free[0]}
		mustChange(t, a, "Swap", func() { swap(t, a, pair[turned], pair[1-turned]) }, changed...)
		mustHold(t, a, free[0], 1)
		mustHold(t, a, nodes[1], api.None)
		mustHold(t, a, nodes[0], 0)
		mustStay(t, a, "P7.1: Swap of two without items", func() { swap(t, a, nodes[1], free[1]) })
	}
}

// An Item that is no cell, or is not taken any more, goes over all the same.
func TestSwapOfAnItemThatIsOver(t *testing.T) {
	a, nodes := held(t, 2)
	a.Give(0)
	swap(t, a, nodes[0], nodes[1])
	mustHold(t, a, nodes[0], 1)
	if got := a.Cell(nodes[1], api.Item); got != 0 {
		t.Errorf("P7.1: Item of %d: %d, must be 0", nodes[1], got)
	}
	for _, v := range []int64{least, -2, api.None, 6, 99, greatest} {
		a, nodes := held(t, 2)
		a.Set(nodes[0], api.Item, v)
		swap(t, a, nodes[0], nodes[1])
		mustHold(t, a, nodes[0], 1)
		if got := a.Cell(nodes[1], api.Item); got != api.None {
			t.Errorf("P7.1: Item of %d: %d, must be None", nodes[1], got)
		}
	}
}

// Calls of what is no cell, or of one that is not taken, answer nothing and change nothing.
func TestOfNoCell(t *testing.T) {
	a, nodes := held(t, 3)
	a.Give(1) // the node has it still
	for _, c := range append(odd(), 1, 6, 7, 8) {
		mustStay(t, a, "R1: calls of no cell", func() {
			mustBe(t, a, c, entry(api.None, api.None))
			mustHaveNode(t, a, c, api.None)
			for _, key := range edges() {
				mustLower(t, a, c, key, false)
			}
			for _, d := range append(odd(), 0, 1, 2, nodes[0], 6, 7) {
				swap(t, a, c, d)
				swap(t, a, d, c)
				if c != api.None && d != api.None {
					put(t, a, c, d)
					put(t, a, d, c)
				}
				mustBeBefore(t, a, c, c, false)
				within(t, a, "Before", func() { item.Before(a, c, d) })
				within(t, a, "Before", func() { item.Before(a, d, c) })
			}
		})
	}
	mustHold(t, a, nodes[0], 0)
	mustHold(t, a, nodes[2], 2)
}

// A cell that was never taken is not made an item by a Put ahead of it.
func TestPutAheadOfNew(t *testing.T) {
	a := arena.New(3)
	n := take(t, a, 1)[0]
	put(t, a, n, 1)
	put(t, a, 1, n)
	mustHold(t, a, n, api.None)
	mustHaveNode(t, a, n, api.None)
	mustNew(t, a, 4, 4, 1)
}

func TestNilArena(t *testing.T) {
	for _, key := range edges() {
		if i, ok := item.New(nil, key, key); i != api.None || ok {
			t.Errorf("R1: New of a nil arena: %d %t", i, ok)
		}
	}
	for _, c := range append(odd(), 0, 1) {
		if got := item.Entry(nil, c); got != (api.Entry{}) {
			t.Errorf("R1: Entry(%d) of a nil arena: %v", c, got)
		}
		if got := item.Node(nil, c); got != api.None {
			t.Errorf("R1: Node(%d) of a nil arena: %d", c, got)
		}
		for _, key := range edges() {
			if item.Lower(nil, c, key) {
				t.Errorf("R1: Lower(%d, %d) of a nil arena: true", c, key)
			}
		}
		for _, d := range append(odd(), 0, 1) {
			if item.Before(nil, c, d) {
				t.Errorf("R1: Before(%d, %d) of a nil arena: true", c, d)
			}
			item.Put(nil, c, d)
			item.Swap(nil, c, d)
		}
	}
}

func TestArenasStandByThemselves(t *testing.T) {
	a, nodes := held(t, 2)
	b, _ := held(t, 2)
	steps := b.Meter().Steps()
	mustLower(t, a, 1, -5, true)
	mustBeBefore(t, a, 1, 0, true)
	swap(t, a, nodes[0], nodes[1])
	i := mustNew(t, a, 9, 9, 4)
	put(t, a, nodes[0], i)
	if b.Meter().Steps() != steps {
		t.Errorf("P7.2: steps of one arena were counted in another")
	}
	mustBe(t, b, 1, entry(10, 1))
	mustBeBefore(t, b, 1, 0, false)
	mustHold(t, b, nodes[0], 0)
	mustHold(t, b, nodes[1], 1)
	mustNew(t, b, 7, 7, 4)
	mustBe(t, a, 4, entry(9, 9))
	mustHold(t, a, nodes[0], 4)
}

// A heap's fields are read and written by the arena's calls: each call that asks or changes something takes a step.
func TestStepsAreCounted(t *testing.T) {
	a, nodes := held(t, 2)
	for what, call := range map[string]func(){
		"New":    func() { item.New(a, 1, 1) },
		"Entry":  func() { item.Entry(a, 0) },
		"Before": func() { item.Before(a, 0, 1) },
		"Lower":  func() { item.Lower(a, 0, 0) },
		"Node":   func() { item.Node(a, 0) },
		"Put":    func() { item.Put(a, nodes[0], 0) },
		"Swap":   func() { item.Swap(a, nodes[0], nodes[1]) },
	} {
		was := a.Meter().Steps()
		call()
		if a.Meter().Steps() == was {
			t.Errorf("P7.2: %s took no step", what)
		}
	}
}

// plain is the plain answer: what each item is, and which item each node has.
type plain struct {
	is    map[int]api.Entry
	has   map[int]int
	nodes []int
}

// node is where the plain answer has an item.
func (p *plain) node(i int) int {
	for _, n := range p.nodes {
		if p.has[n] == i {
			return n
		}
	}
	return api.None
}

// before is the plain answer of Before.
func (p *plain) before(i, j int) bool {
	x, y := p.is[i], p.is[j]
	switch {
	case x.Key != y.Key:
		return x.Key < y.Key
	case x.Serial != y.Serial:
		return x.Serial < y.Serial
	}
	return i < j
}

// step makes one call that is promised, of the arena and of the plain answer both.
func step(t *testing.T, q *rand.Rand, a *arena.Arena, p *plain, items []int) {
	t.Helper()
	i, j := items[q.Intn(len(items))], items[q.Intn(len(items))]
	n, m := p.nodes[q.Intn(len(p.nodes))], p.nodes[q.Intn(len(p.nodes))]
	switch q.Intn(5) {
	case 0, 1:
		swap(t, a, n, m)
		p.has[n], p.has[m] = p.has[m], p.has[n]
	case 2:
		if p.has[n] == api.None && p.node(i) == api.None {
			put(t, a, n, i)
			p.has[n] = i
		}
	case 3:
		key := int64(q.Intn(12) - 6)
		was := p.is[i]
		mustLower(t, a, i, key, key <= was.Key)
		p.is[i] = entry(min(key, was.Key), was.Serial)
	default:
		mustBeBefore(t, a, i, j, p.before(i, j))
	}
}

func TestAgainstPlainItems(t *testing.T) {
	q := rand.New(rand.NewSource(7))
	for run := range 60 {
		count := 1 + q.Intn(8)
		a := arena.New(2*count + 1)
		p := &plain{is: map[int]api.Entry{}, has: map[int]int{}}
		var items []int
		for c := range count {
			e := entry(int64(q.Intn(6)), int64(q.Intn(3)))
			items = append(items, mustNew(t, a, e.Key, e.Serial, c))
			p.is[c] = e
		}
		p.nodes = take(t, a, count+1)
		for _, n := range p.nodes {
			p.has[n] = api.None
		}
		for n := range 120 {
			step(t, q, a, p, items)
			for _, i := range items {
				mustBe(t, a, i, p.is[i])
				mustHaveNode(t, a, i, p.node(i))
			}
			for _, n := range p.nodes {
				mustHold(t, a, n, p.has[n])
			}
			if t.Failed() {
				t.Fatalf("run %d, call %d", run, n)
			}
		}
	}
}
