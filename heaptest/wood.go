// Package heaptest: what the tests of heaps of every kind share: heaps beside the plain answer, and the tests that each kind must pass. The program itself leans on none of it.
package heaptest

import (
	"slices"

	"thicket/api"
	"thicket/arena"
	"thicket/item"
	"thicket/order"
)

// T is what failures are told to: a *testing.T.
type T interface {
	Helper()
	Failed() bool
	Errorf(format string, args ...any)
	Fatalf(format string, args ...any)
}

// Kind is a kind of heaps: its calls, and what its chapter says of it alone.
type Kind struct {
	Chapter string // P8, and so on
	Push    func(a *arena.Arena, r, i int) (int, bool)
	Min     func(a *arena.Arena, r int) int
	Pop     func(a *arena.Arena, r int) (int, int)
	Fall    func(a *arena.Arena, r, i int) int
	Cut     func(a *arena.Arena, r, i int) int
	Meld    func(a *arena.Arena, r, s int) int
	All     func(a *arena.Arena, r int) []int
	Drop    func(a *arena.Arena, r int) []int
	Shape   func(w *Wood, what string, r int) int // how many nodes there are from a root on; fails if they have not the shape
	Most    func(call string, n int) int64        // how many steps a call of a heap of n items may take

	Together bool // steps are held against what all calls so far may take together
	Shared   bool // what a call may take hangs on how many items all heaps of the arena have
}

// Most is what P8.2 allows a call of a heap of n items, but for what a kind says of its own.
func Most(call string, n int) int64 {
	if call == "All" || call == "Drop" {
		return api.A + api.B*int64(n)
	}
	return order.Limit(api.A, api.B, n)
}

// Wood is an arena, heaps in it, and the plain answer: which items each heap has, and which are in none.
type Wood struct {
	T
	Kind  Kind
	A     *arena.Arena
	Root  []int
	Has   [][]int
	Out   []int
	Great bool // too great to look at all cells at each call

	spent, most int64 // steps of calls that are held together, and how many they may take
}

// Plant is a wood of some heaps of no items.
func Plant(t T, k Kind, cells, heaps int) *Wood {
	t.Helper()
	w := &Wood{T: t, Kind: k, A: arena.New(cells), Has: make([][]int, heaps)}
	w.Root = slices.Repeat([]int{api.None}, heaps)
	return w
}

// Grown is a wood of one heap, with room for as many items again; keys are pushed in their order.
func Grown(t T, k Kind, keys ...int64) *Wood {
	t.Helper()
	w := Plant(t, k, 4*len(keys)+4, 1)
	w.Add(0, keys...)
	return w
}

// Fresh makes an item that is in no heap.
func (w *Wood) Fresh(key, serial int64) int {
	w.Helper()
	i, ok := item.New(w.A, key, serial)
	if !ok {
		w.Fatalf("New: no cell")
	}
	w.Out = append(w.Out, i)
	return i
}

// Add pushes keys; serials rise with the number of items.
func (w *Wood) Add(h int, keys ...int64) {
	w.Helper()
	for _, key := range keys {
		w.Push(h, w.Fresh(key, int64(w.A.Len())))
	}
}

// Key is an item's.
func (w *Wood) Key(i int) int64 { return item.Entry(w.A, i).Key }

// Compare is the plain order of items: by Key, Serial and cell.
func (w *Wood) Compare(i, j int) int {
	if c := order.Compare(item.Entry(w.A, i), item.Entry(w.A, j)); c != 0 {
		return c
	}
	return i - j
}

// Least is the item of a heap that must be told by Min.
func (w *Wood) Least(h int) int {
	if len(w.Has[h]) == 0 {
		return api.None
	}
	return slices.MinFunc(w.Has[h], w.Compare)
}

// Row is all that a cell has.
func (w *Wood) Row(c int) (l [api.Fields]int64) {
	for field := range l {
		l[field] = w.A.Get(c, field)
	}
	return l
}

// whole is all that the cells have, and which of them are taken.
func (w *Wood) whole() []int64 {
	var l []int64
	for c := range w.A.Cells() {
		row := w.Row(c)
		l = append(l, row[:]...)
		if w.A.Live(c) {
			l = append(l, 1)
		}
	}
	return l
}

// Stay runs calls that must change nothing.
func (w *Wood) Stay(what string, calls func()) {
	w.Helper()
	was := w.whole()
	calls()
	if !slices.Equal(w.whole(), was) {
		w.Errorf("%s: something has changed", what)
	}
}

// Within runs a call and holds the steps that it took against the most that it may take of n items.
func (w *Wood) Within(call string, n int, run func()) {
	w.Helper()
	was := w.A.Meter().Steps()
	run()
	got, most := w.A.Meter().Steps()-was, w.Kind.Most(call, n)
	if w.Kind.Together && !byItself(call) {
		w.spent, w.most = w.spent+got, w.most+most
		got, most = w.spent, w.most
	}
	if got > most {
		w.Errorf("%s, steps: %s of %d items: %d, at most %d", w.Kind.Chapter, call, n, got, most)
	}
}

// byItself tells whether a call is held against its own steps even where others are held together: it leaves no work for a later one, so what it may take and does not must not be lent to them.
func byItself(call string) bool { return call == "Min" || call == "All" || call == "Drop" }

// changing stands for a Node that a call may change.
const changing = Lowest

// kept is what a call of these heaps leaves alone: their items but for the Node, all other items and nodes whole.
func (w *Wood) kept(heaps ...int) map[int][api.Fields]int64 {
	rows := map[int][api.Fields]int64{}
	if w.Great {
		return rows
	}
	for h, l := range w.Has {
		for _, i := range l {
			row := w.Row(i)
			if slices.Contains(heaps, h) {
				row[api.Node] = changing
			} else {
				n := item.Node(w.A, i)
				rows[n] = w.Row(n)
			}
			rows[i] = row
		}
	}
	for _, i := range w.Out {
		rows[i] = w.Row(i)
	}
	return rows
}

func (w *Wood) mustKeep(call string, was map[int][api.Fields]int64) {
	w.Helper()
	for c, row := range was {
		now := w.Row(c)
		if row[api.Node] == changing {
			now[api.Node] = changing
		}
		if now != row || !w.A.Live(c) {
			w.Fatalf("%s: %s: cell %d, which is not its own: %v, was %v", w.Kind.Chapter, call, c, now, row)
		}
	}
}

// call runs one of these heaps, and sees that it takes no more steps than it may of all their items, and leaves alone what is not theirs.
func (w *Wood) call(call string, run func(), heaps ...int) {
	w.Helper()
	was := w.kept(heaps...)
	w.Within(call, w.count(heaps...), run)
	w.mustKeep(call, was)
}

// count is how many items a call of these heaps is held against.
func (w *Wood) count(heaps ...int) int {
	n := 0
	for h, l := range w.Has {
		if w.Kind.Shared || slices.Contains(heaps, h) {
			n += len(l)
		}
	}
	return n
}

// without is a list of the plain answer but for one item; the list itself is over.
func without(l []int, i int) []int {
	at := slices.Index(l, i)
	if at < 0 {
		return l
	}
	return slices.Delete(l, at, at+1)
}

// Push pushes an item that is in no heap.
func (w *Wood) Push(h, i int) {
	w.Helper()
	w.Has[h], w.Out = append(w.Has[h], i), without(w.Out, i)
	r, ok := api.None, false
	w.call("Push", func() { r, ok = w.Kind.Push(w.A, w.Root[h], i) }, h)
	if !ok {
		w.Fatalf("%s: Push of item %d: false", w.Kind.Chapter, i)
	}
	w.Root[h] = r
}

// left sees that an item has left its heap, and that a cell was given back, but not the item.
func (w *Wood) left(h, i, live int) {
	w.Helper()
	if got := w.A.Get(i, api.Node); got != api.None || !w.A.Live(i) || w.A.Len() != live-1 {
		w.Fatalf("%s: item %d has left: Node %d; it is taken: %t; cells: %d, were %d", w.Kind.Chapter, i, got, w.A.Live(i), w.A.Len(), live)
	}
	w.Has[h], w.Out = without(w.Has[h], i), append(w.Out, i)
}

// Pop pops a heap that has items.
func (w *Wood) Pop(h int) int {
	w.Helper()
	i := w.Least(h)
	w.pop(h, i)
	return i
}

func (w *Wood) pop(h, want int) {
	w.Helper()
	live, r, got := w.A.Len(), api.None, api.None
	w.call("Pop", func() { r, got = w.Kind.Pop(w.A, w.Root[h]) }, h)
	if got != want {
		w.Fatalf("%s: Pop: item %d, must be %d", w.Kind.Chapter, got, want)
	}
	w.Root[h] = r
	w.left(h, got, live)
}

// Fall lowers an item's key and tells its heap.
func (w *Wood) Fall(h, i int, key int64) {
	w.Helper()
	if !item.Lower(w.A, i, key) {
		w.Fatalf("Lower(%d, %d): false", i, key)
	}
	w.call("Fall", func() { w.Root[h] = w.Kind.Fall(w.A, w.Root[h], i) }, h)
}

// Cut takes an item out of its heap.
func (w *Wood) Cut(h, i int) {
	w.Helper()
	live := w.A.Len()
	w.call("Cut", func() { w.Root[h] = w.Kind.Cut(w.A, w.Root[h], i) }, h)
	w.left(h, i, live)
}

// Meld makes all of o's items h's.
func (w *Wood) Meld(h, o int) {
	w.Helper()
	w.call("Meld", func() { w.Root[h] = w.Kind.Meld(w.A, w.Root[h], w.Root[o]) }, h, o)
	w.Root[o], w.Has[h], w.Has[o] = api.None, append(w.Has[h], w.Has[o]...), nil
}

// Drop empties a heap.
func (w *Wood) Drop(h int) {
	w.Helper()
	want, live := slices.Sorted(slices.Values(w.Has[h])), w.A.Len()
	var got []int
	w.call("Drop", func() { got = w.Kind.Drop(w.A, w.Root[h]) }, h)
	if !slices.Equal(got, want) || w.A.Len() != live-len(want) {
		w.Fatalf("%s: Drop: %v, must be %v; cells: %d, were %d", w.Kind.Chapter, got, want, w.A.Len(), live)
	}
	for _, i := range got {
		if w.A.Get(i, api.Node) != api.None || !w.A.Live(i) {
			w.Fatalf("%s: Drop: item %d is not as one in no heap", w.Kind.Chapter, i)
		}
	}
	w.Root[h], w.Has[h], w.Out = api.None, nil, append(w.Out, got...)
}

// Drain pops all items of a heap: they must come in order.
func (w *Wood) Drain(h int) {
	w.Helper()
	for _, i := range slices.SortedFunc(slices.Values(w.Has[h]), w.Compare) {
		w.pop(h, i)
	}
	w.gone(h)
}

// gone sees that a heap of no items is None.
func (w *Wood) gone(h int) {
	w.Helper()
	if len(w.Has[h]) > 0 || w.Root[h] != api.None {
		w.Fatalf("%s: the root of no items: %d", w.Kind.Chapter, w.Root[h])
	}
}

// Right holds each heap against the plain answer: its items, its least one, its shape, and that no cell is lost.
func (w *Wood) Right(what string) {
	w.Helper()
	cells := len(w.Out)
	for h, l := range w.Has {
		cells += 2 * len(l)
		var all []int
		w.Within("All", w.count(h), func() { all = w.Kind.All(w.A, w.Root[h]) })
		if want := slices.Sorted(slices.Values(l)); !slices.Equal(all, want) {
			w.Fatalf("%s: %s: All of heap %d: %v, must be %v", w.Kind.Chapter, what, h, all, want)
		}
		got := api.None
		w.Within("Min", w.count(h), func() { got = w.Kind.Min(w.A, w.Root[h]) })
		if want := w.Least(h); got != want {
			w.Fatalf("%s: %s: Min of heap %d: %d, must be %d", w.Kind.Chapter, what, h, got, want)
		}
		if n := w.Kind.Shape(w, what, w.Root[h]); n != len(l) {
			w.Fatalf("%s, shape: %s: heap %d has %d nodes, must be %d", w.Kind.Chapter, what, h, n, len(l))
		}
	}
	if w.A.Len() != cells {
		w.Fatalf("%s: %s: %d cells are taken, must be %d", w.Kind.Chapter, what, w.A.Len(), cells)
	}
}

// Links are what the shape says of a node.
type Links struct {
	Up, Down, Left, Right, Rank, Mark int64
}

// Node sees that a cell is a node of these links, with an item of its own that is behind the one above it, and else as it was taken. Fields are asked by Get, for Cell tells None of any number that is no cell.
func (w *Wood) Node(what string, n int, links Links) {
	w.Helper()
	row := w.Row(n)
	i := row[api.Item]
	want := [api.Fields]int64{
		api.Up: links.Up, api.Down: links.Down, api.Left: links.Left, api.Right: links.Right,
		api.Rank: links.Rank, api.Mark: links.Mark, api.Item: i, api.Node: api.None,
	}
	if !w.A.Live(n) || row != want {
		w.Fatalf("%s, shape: %s: node %d: %v, must be %v", w.Kind.Chapter, what, n, row, want)
	}
	if w.A.Get(int(i), api.Node) != int64(n) {
		w.Fatalf("%s: %s: node %d and its item %d are not one another's", w.Kind.Chapter, what, n, i)
	}
	if links.Up != api.None && w.Compare(w.A.Cell(int(links.Up), api.Item), int(i)) >= 0 {
		w.Fatalf("%s, shape: %s: the item of node %d is not behind that of its Up", w.Kind.Chapter, what, n)
	}
}
