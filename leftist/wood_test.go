package leftist_test

import (
	"math"
	"slices"
	"testing"

	"thicket/api"
	"thicket/arena"
	"thicket/item"
	"thicket/leftist"
	"thicket/order"
)

const (
	greatest = math.MaxInt64
	least    = math.MinInt64
)

// wood is an arena, heaps in it, and the plain answer: which items each heap has, and which are in none.
type wood struct {
	t    *testing.T
	a    *arena.Arena
	root []int
	has  [][]int
	out  []int
}

func plant(t *testing.T, cells, heaps int) *wood {
	t.Helper()
	w := &wood{t: t, a: arena.New(cells), root: make([]int, heaps), has: make([][]int, heaps)}
	for h := range heaps {
		w.root[h] = api.None
	}
	return w
}

// grown is a wood of one heap, with room for as many items again; keys are pushed in their order.
func grown(t *testing.T, keys ...int64) *wood {
	t.Helper()
	w := plant(t, 4*len(keys)+4, 1)
	w.add(0, keys...)
	return w
}

// fresh makes an item that is in no heap.
func (w *wood) fresh(key, serial int64) int {
	w.t.Helper()
	i, ok := item.New(w.a, key, serial)
	if !ok {
		w.t.Fatalf("New: no cell")
	}
	w.out = append(w.out, i)
	return i
}

// add pushes keys; serials rise with the number of items.
func (w *wood) add(h int, keys ...int64) {
	w.t.Helper()
	for _, key := range keys {
		w.push(h, w.fresh(key, int64(w.a.Len())))
	}
}

// compare is the plain order of items: by Key, Serial and cell.
func (w *wood) compare(i, j int) int {
	if c := order.Compare(item.Entry(w.a, i), item.Entry(w.a, j)); c != 0 {
		return c
	}
	return i - j
}

// least is the item of a heap that must be told by Min.
func (w *wood) least(h int) int {
	if len(w.has[h]) == 0 {
		return api.None
	}
	return slices.MinFunc(w.has[h], w.compare)
}

// row is all that a cell has.
func (w *wood) row(c int) (l [api.Fields]int64) {
	for field := range l {
		l[field] = w.a.Get(c, field)
	}
	return l
}

// whole is all that the cells have, and which of them are taken.
func (w *wood) whole() []int64 {
	var l []int64
	for c := range w.a.Cells() {
		if !w.a.Live(c) {
			l = append(l, greatest)
			continue
		}
		row := w.row(c)
		l = append(l, row[:]...)
	}
	return l
}

// mustStay runs calls that must change nothing.
func (w *wood) mustStay(what string, calls func()) {
	w.t.Helper()
	was, live := w.whole(), w.a.Len()
	calls()
	if !slices.Equal(w.whole(), was) || w.a.Len() != live {
		w.t.Errorf("%s: something has changed", what)
	}
}

// within runs a call and holds the steps that it took against the most that it may take.
func (w *wood) within(what string, most int64, call func()) {
	w.t.Helper()
	was := w.a.Meter().Steps()
	call()
	if got := w.a.Meter().Steps() - was; got > most {
		w.t.Errorf("P8.2: %s: %d steps, at most %d", what, got, most)
	}
}

// most is what P8.2 allows a call of a heap of n items.
func most(n int) int64 { return order.Limit(api.A, api.B, n) }

// mostOfAll is what P8.2 allows All and Drop.
func mostOfAll(n int) int64 { return api.A + api.B*int64(n) }

// changing stands for a Node that a call may change.
const changing = least

// kept is what a call of these heaps leaves alone: their items but for the Node, all other items and nodes whole.
func (w *wood) kept(heaps ...int) map[int][api.Fields]int64 {
	rows := map[int][api.Fields]int64{}
	for h, l := range w.has {
		for _, i := range l {
			row := w.row(i)
			if slices.Contains(heaps, h) {
				row[api.Node] = changing
			} else {
				n := item.Node(w.a, i)
				rows[n] = w.row(n)
			}
			rows[i] = row
		}
	}
	for _, i := range w.out {
		rows[i] = w.row(i)
	}
	return rows
}

// call runs one of these heaps, and sees that it takes no more steps than it may of all their items, and leaves alone what is not theirs.
func (w *wood) call(what string, run func(), heaps ...int) {
	w.t.Helper()
	n := 0
	for _, h := range heaps {
		n += len(w.has[h])
	}
	was := w.kept(heaps...)
	w.within(what, most(n), run)
	w.mustKeep(what, was)
}

func (w *wood) mustKeep(what string, was map[int][api.Fields]int64) {
	w.t.Helper()
	for c, row := range was {
		now := w.row(c)
		if row[api.Node] == changing {
			now[api.Node] = changing
		}
		if now != row || !w.a.Live(c) {
			w.t.Fatalf("P8.1: %s: cell %d, which is not its own: %v, was %v", what, c, now, row)
		}
	}
}

// without is a list of the plain answer but for one item.
func without(l []int, i int) []int {
	return slices.DeleteFunc(slices.Clone(l), func(j int) bool { return i == j })
}

func (w *wood) push(h, i int) {
	w.t.Helper()
	w.has[h], w.out = append(w.has[h], i), without(w.out, i)
	r, ok := api.None, false
	w.call("Push", func() { r, ok = leftist.Push(w.a, w.root[h], i) }, h)
	if !ok {
		w.t.Fatalf("P8: Push of item %d: false", i)
	}
	w.root[h] = r
}

// left sees that an item is out of its heap, and its node given back.
func (w *wood) left(h, i, node int) {
	w.t.Helper()
	if got := w.a.Get(i, api.Node); got != api.None || !w.a.Live(i) || w.a.Live(node) {
		w.t.Fatalf("P8: item %d is out: Node %d; taken: the item %t, its node %t", i, got, w.a.Live(i), w.a.Live(node))
	}
	w.has[h], w.out = without(w.has[h], i), append(w.out, i)
}

func (w *wood) pop(h int) int {
	w.t.Helper()
	want := w.least(h)
	node, r, got := item.Node(w.a, want), api.None, api.None
	w.call("Pop", func() { r, got = leftist.Pop(w.a, w.root[h]) }, h)
	if got != want {
		w.t.Fatalf("P8: Pop: item %d, must be %d", got, want)
	}
	w.root[h] = r
	w.left(h, got, node)
	return got
}

func (w *wood) fall(h, i int, key int64) {
	w.t.Helper()
	if !item.Lower(w.a, i, key) {
		w.t.Fatalf("Lower(%d, %d): false", i, key)
	}
	w.call("Fall", func() { w.root[h] = leftist.Fall(w.a, w.root[h], i) }, h)
}

func (w *wood) cut(h, i int) {
	w.t.Helper()
	node := item.Node(w.a, i)
	w.call("Cut", func() { w.root[h] = leftist.Cut(w.a, w.root[h], i) }, h)
	w.left(h, i, node)
}

// meld makes all of o's items h's.
func (w *wood) meld(h, o int) {
	w.t.Helper()
	w.call("Meld", func() { w.root[h] = leftist.Meld(w.a, w.root[h], w.root[o]) }, h, o)
	w.root[o], w.has[h], w.has[o] = api.None, append(w.has[h], w.has[o]...), nil
}

func (w *wood) drop(h int) {
	w.t.Helper()
	want := slices.Sorted(slices.Values(w.has[h]))
	was, live := w.kept(h), w.a.Len()
	var got []int
	w.within("Drop", mostOfAll(len(want)), func() { got = leftist.Drop(w.a, w.root[h]) })
	w.mustKeep("Drop", was)
	if !slices.Equal(got, want) || w.a.Len() != live-len(want) {
		w.t.Fatalf("P8: Drop: %v, must be %v; %d cells of %d are left", got, want, w.a.Len(), live)
	}
	for _, i := range got {
		if w.a.Get(i, api.Node) != api.None || !w.a.Live(i) {
			w.t.Fatalf("P8: Drop: item %d is not as one in no heap", i)
		}
	}
	w.root[h], w.has[h], w.out = api.None, nil, append(w.out, got...)
}

// drain pops all items of a heap: they must come in order.
func (w *wood) drain(h int) {
	w.t.Helper()
	want := slices.SortedFunc(slices.Values(w.has[h]), w.compare)
	for at, i := range want {
		if got := w.pop(h); got != i {
			w.t.Fatalf("P8.3: Pop %d: item %d, must be %d", at, got, i)
		}
	}
	if w.root[h] != api.None {
		w.t.Fatalf("P8.3: the root of no items: %d", w.root[h])
	}
}

// right holds each heap against the plain answer: its items, its least one, its shape, and that no cell is lost.
func (w *wood) right(what string) {
	w.t.Helper()
	cells := len(w.out)
	for h, l := range w.has {
		cells += 2 * len(l)
		var all []int
		w.within("All", mostOfAll(len(l)), func() { all = leftist.All(w.a, w.root[h]) })
		if want := slices.Sorted(slices.Values(l)); !slices.Equal(all, want) {
			w.t.Fatalf("P8: %s: All of heap %d: %v, must be %v", what, h, all, want)
		}
		got := api.None
		w.within("Min", api.A, func() { got = leftist.Min(w.a, w.root[h]) })
		if want := w.least(h); got != want {
			w.t.Fatalf("P8: %s: Min of heap %d: %d, must be %d", what, h, got, want)
		}
		if n, _ := w.shape(what, int64(w.root[h]), api.None); n != len(l) {
			w.t.Fatalf("P8.1: %s: heap %d has %d nodes, must be %d", what, h, n, len(l))
		}
	}
	if w.a.Len() != cells {
		w.t.Fatalf("P8: %s: %d cells are taken, must be %d", what, w.a.Len(), cells)
	}
}

// shape tells how many nodes there are from n on, and n's Rank. Fields are asked by Get, for Cell tells None of any number that is no cell.
func (w *wood) shape(what string, n, up int64) (int, int64) {
	w.t.Helper()
	if n == api.None {
		return 0, 0
	}
	row := w.row(int(n))
	i := row[api.Item]
	l, high := w.shape(what, row[api.Left], n)
	r, low := w.shape(what, row[api.Right], n)
	want := [api.Fields]int64{
		api.Up: up, api.Down: api.None, api.Left: row[api.Left], api.Right: row[api.Right],
		api.Rank: low + 1, api.Item: i, api.Node: api.None,
	}
	if !w.a.Live(int(n)) || row != want || high < low {
		w.t.Fatalf("P8.1: %s: node %d: %v, must be %v; Left of Rank %d", what, n, row, want, high)
	}
	if w.a.Get(int(i), api.Node) != n {
		w.t.Fatalf("P8: %s: node %d and its item %d are not one another's", what, n, i)
	}
	if up != api.None && w.compare(w.a.Cell(int(up), api.Item), int(i)) >= 0 {
		w.t.Fatalf("P8.1: %s: the item of node %d is not behind that of its Up", what, n)
	}
	return l + r + 1, low + 1
}
