package node_test

import (
	"slices"
	"testing"

	"thicket/api"
	"thicket/arena"
	"thicket/heaptest"
	"thicket/item"
	"thicket/node"
)

// some is an arena of items of these keys; there are as many cells for nodes.
func some(t *testing.T, keys ...int64) *arena.Arena {
	t.Helper()
	a := arena.New(2 * len(keys))
	for serial, key := range keys {
		if i, ok := item.New(a, key, int64(serial)); i != serial || !ok {
			t.Fatalf("New: %d %t", i, ok)
		}
	}
	return a
}

func mustNew(t *testing.T, a *arena.Arena, i int) int {
	t.Helper()
	n, ok := node.New(a, i)
	if !ok || !a.Live(n) || a.Cell(n, api.Item) != i || item.Node(a, i) != n {
		t.Fatalf("New(%d): %d %t", i, n, ok)
	}
	return n
}

func mustNotNew(t *testing.T, a *arena.Arena, i int) {
	t.Helper()
	was, in := a.Len(), item.Node(a, i)
	if n, ok := node.New(a, i); n != api.None || ok || a.Len() != was || item.Node(a, i) != in {
		t.Errorf("New(%d): %d %t, must be none", i, n, ok)
	}
}

func TestNew(t *testing.T) {
	a := some(t, 7, 5, 6)
	for _, c := range append(heaptest.NoCells(), 3, 5, 6) {
		mustNotNew(t, a, c)
	}
	for i := range 3 {
		mustNew(t, a, i)
		mustNotNew(t, a, i) // it is in a heap already
	}
}

func TestNewWithoutACell(t *testing.T) {
	a := arena.New(1)
	i, _ := item.New(a, 1, 1)
	mustNotNew(t, a, i)
	if item.Node(a, i) != api.None {
		t.Errorf("New without a cell: the item is in node %d", item.Node(a, i))
	}
}

func TestRoot(t *testing.T) {
	a := some(t, 7, 5, 6)
	n, m := mustNew(t, a, 0), mustNew(t, a, 1)
	a.Set(m, api.Up, int64(n))
	free := m + 1
	for r, want := range map[int]int{n: n, m: api.None, 0: api.None, 2: api.None, free: api.None} {
		if got := node.Root(a, r); got != want {
			t.Errorf("Root(%d): %d, must be %d", r, got, want)
		}
	}
	for _, c := range heaptest.NoCells() {
		if got := node.Root(a, c); got != api.None {
			t.Errorf("Root(%d): %d", c, got)
		}
	}
	a.Set(0, api.Node, int64(m))
	if got := node.Root(a, n); got != api.None {
		t.Errorf("Root(%d), whose item is in another node: %d", n, got)
	}
}

func TestBefore(t *testing.T) {
	a := some(t, 7, 5, 5)
	n, m, o := mustNew(t, a, 0), mustNew(t, a, 1), mustNew(t, a, 2)
	for _, l := range [][2]int{{m, n}, {m, o}, {o, n}} {
		if !node.Before(a, l[0], l[1]) || node.Before(a, l[1], l[0]) || node.Before(a, l[0], l[0]) {
			t.Errorf("Before(%d, %d)", l[0], l[1])
		}
	}
}

func TestGive(t *testing.T) {
	a := some(t, 7, 5)
	n, m := mustNew(t, a, 0), mustNew(t, a, 1)
	node.Give(a, n)
	if a.Live(n) || !a.Live(0) || item.Node(a, 0) != api.None || item.Node(a, 1) != m || a.Len() != 3 {
		t.Errorf("Give(%d): the item's node is %d", n, item.Node(a, 0))
	}
	for _, c := range append(heaptest.NoCells(), n) {
		node.Give(a, c)
		if a.Len() != 3 || item.Node(a, 1) != m {
			t.Errorf("Give(%d), which is not taken, changes something", c)
		}
	}
}

func TestItemsAndDrop(t *testing.T) {
	a := some(t, 7, 5, 6, 4)
	var l []int
	for _, i := range []int{2, 0, 3} {
		l = append(l, mustNew(t, a, i))
	}
	last := mustNew(t, a, 1)
	was := slices.Clone(l)
	if got := node.Items(a, l); !slices.Equal(got, []int{0, 2, 3}) || a.Len() != 8 {
		t.Errorf("Items: %v", got)
	}
	if got := node.Drop(a, l); !slices.Equal(got, []int{0, 2, 3}) || a.Len() != 5 || !a.Live(last) {
		t.Errorf("Drop: %v; %d cells are left", got, a.Len())
	}
	if !slices.Equal(l, was) {
		t.Errorf("R2: the list is %v, was %v", l, was)
	}
	for i, want := range []int{api.None, last, api.None, api.None} {
		if got := item.Node(a, i); got != want || !a.Live(i) {
			t.Errorf("Drop: item %d is in node %d, must be %d", i, got, want)
		}
	}
	if got := append(node.Items(a, nil), node.Drop(a, nil)...); len(got) > 0 {
		t.Errorf("Items and Drop of none: %v", got)
	}
}

func TestNilArena(t *testing.T) {
	for _, c := range append(heaptest.NoCells(), 0, 1) {
		if n, ok := node.New(nil, c); n != api.None || ok {
			t.Errorf("R1: New(%d) of a nil arena: %d %t", c, n, ok)
		}
		if node.Root(nil, c) != api.None || node.Before(nil, c, 0) {
			t.Errorf("R1: Root or Before of %d of a nil arena", c)
		}
		node.Give(nil, c)
		if l := append(node.Items(nil, []int{c}), node.Drop(nil, []int{c})...); len(l) > 0 {
			t.Errorf("R1: Items or Drop of a nil arena: %v", l)
		}
	}
}
