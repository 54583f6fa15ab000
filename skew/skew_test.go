package skew_test

import (
	"slices"
	"testing"

	"thicket/api"
	"thicket/heaptest"
	"thicket/skew"
	"thicket/skewnum"
)

func kind() heaptest.Kind {
	return heaptest.Kind{
		Chapter: "P11",
		Push:    skew.Push, Min: skew.Min, Pop: skew.Pop, Fall: skew.Fall,
		Cut: skew.Cut, Meld: skew.Meld, All: skew.All, Drop: skew.Drop,
		Shape: shape, Most: most,
	}
}

// most is P11.2. Min keeps to A too, as of leftist heaps.
func most(call string, n int) int64 {
	if call == "Push" || call == "Min" {
		return api.A
	}
	return heaptest.Most(call, n)
}

// shape is P11.1 and P11.3.
func shape(w *heaptest.Wood, what string, r int) int {
	w.Helper()
	nodes := 0
	var got []int
	for n := int64(r); n != api.None; n = w.A.Get(int(n), api.Right) {
		k := w.A.Get(int(n), api.Rank)
		got = append(got, int(k))
		if !skewnum.Right(got) {
			w.Fatalf("P11.1: %s: the Ranks of trees are %v, and so on", what, got)
		}
		nodes += grown(w, what, n, api.None, k)
	}
	return nodes
}

// grown sees that n is a tree of Rank k, and tells how many nodes it has: for each lower Rank it has a child of it, with a single one ahead of it or without.
func grown(w *heaptest.Wood, what string, n, up, k int64) int {
	w.Helper()
	row := w.Row(int(n))
	w.Node(what, int(n), heaptest.Links{Up: up, Down: row[api.Down], Left: api.None, Right: row[api.Right], Rank: k})
	nodes, c := 1, row[api.Down]
	for rank := k - 1; rank >= 0; rank-- {
		if single(w, c, rank) {
			nodes += grown(w, what, c, n, 0)
			c = w.A.Get(int(c), api.Right)
		}
		nodes += grown(w, what, c, n, rank)
		c = w.A.Get(int(c), api.Right)
	}
	if c != api.None {
		w.Fatalf("P11.1: %s: behind the last child of node %d comes %d", what, n, c)
	}
	if nodes < 1<<k || nodes > 1<<(k+1)-1 {
		w.Fatalf("P11.3: %s: a tree of Rank %d has %d nodes", what, k, nodes)
	}
	return nodes
}

// single tells whether c, which is where the child of a Rank is awaited, is a single one ahead of it.
func single(w *heaptest.Wood, c, rank int64) bool {
	return w.A.Get(int(c), api.Rank) == 0 && (rank > 0 || w.A.Get(int(c), api.Right) != api.None)
}

// tops are a heap's top nodes.
func tops(w *heaptest.Wood, h int) []int {
	var l []int
	for n := w.Root[h]; n != api.None; n = w.A.Cell(n, api.Right) {
		l = append(l, n)
	}
	return l
}

// ranks are those of a heap's trees.
func ranks(w *heaptest.Wood, h int) []int {
	var l []int
	for _, n := range tops(w, h) {
		l = append(l, int(w.A.Get(n, api.Rank)))
	}
	return l
}

func mustRanks(w *heaptest.Wood, what string, want ...int) {
	w.Helper()
	if got := ranks(w, 0); !slices.Equal(got, want) {
		w.Fatalf("P11.1: %s: Ranks %v, must be %v", what, got, want)
	}
}

func TestAsEveryKind(t *testing.T) {
	for _, test := range heaptest.Tests() {
		t.Run(test.Name, func(t *testing.T) { test.Run(t, kind()) })
	}
}

func TestRun(t *testing.T) {
	for n, want := range [][]int{{}, {0}, {0, 0}, {1}, {0, 1}, {0, 0, 1}, {1, 1}, {2}, {0, 2}, {0, 0, 2}, {1, 2}} {
		for _, l := range heaptest.Orders(n) {
			mustRanks(heaptest.Grown(t, kind(), l.Keys...), "Push of "+l.How+" keys", want...)
		}
	}
}

// Heaps that are pushed alone have the Ranks of the skew number of their size.
func TestRanks(t *testing.T) {
	for _, l := range heaptest.Orders(1100) {
		w := heaptest.Greatly(t, kind(), 2200, 1)
		for at, key := range l.Keys {
			w.Add(0, key)
			mustRanks(w, "Push of "+l.How+" keys", skewnum.Of(at+1)...)
		}
		w.Right("Push of " + l.How + " keys")
	}
}

// ways are those for a heap to come to have n items: with the first two Ranks the same or not, with single children or without.
func ways() []func(t *testing.T, n int) *heaptest.Wood {
	return []func(t *testing.T, n int) *heaptest.Wood{bePushed, bePopped, beMelded}
}

func bePushed(t *testing.T, n int) *heaptest.Wood {
	w := heaptest.Plant(t, kind(), 250, 2)
	w.Add(0, heaptest.Drawn(n)...)
	return w
}

func bePopped(t *testing.T, n int) *heaptest.Wood {
	m := heaptest.Mix(20)
	w := heaptest.Plant(t, kind(), 250, 2)
	w.Add(0, heaptest.Drawn(n+9)...)
	for at := range 5 {
		if at == 4 {
			w.Push(0, w.Out[0])
		}
		w.Pop(0)
		w.Cut(0, m.One(w.Has[0]))
	}
	return w
}

func beMelded(t *testing.T, n int) *heaptest.Wood {
	w := heaptest.Plant(t, kind(), 250, 2)
	w.Add(0, heaptest.Drawn(n/2)...)
	w.Add(1, heaptest.Drawn(n-n/2)...)
	w.Meld(0, 1)
	return w
}

// A heap of each size comes to have one item more, and one less by each way.
func TestEachSize(t *testing.T) {
	m := heaptest.Mix(21)
	calls := []func(w *heaptest.Wood){
		func(w *heaptest.Wood) { w.Add(0, int64(m.Next())) },
		func(w *heaptest.Wood) { w.Pop(0) },
		func(w *heaptest.Wood) { w.Cut(0, m.One(w.Has[0])) },
		func(w *heaptest.Wood) { w.Fall(0, m.One(w.Has[0]), heaptest.Lowest) },
		func(w *heaptest.Wood) { w.Drop(0) },
	}
	for n := 1; n < 70; n++ {
		for _, call := range calls {
			for _, way := range ways() {
				w := way(t, n)
				w.Right("so many")
				call(w)
				w.Right("a call")
			}
		}
	}
}

// Of each small size, and of each that came to be so in another way: no tree, one, two or three of each Rank.
func TestMeldOfAllSizes(t *testing.T) {
	for n := range 34 {
		for o := range 34 {
			for _, way := range ways() {
				w := way(t, n)
				w.Add(1, heaptest.Drawn(o)...)
				w.Meld(0, 1)
				w.Right("Meld")
			}
		}
	}
}

// Each item of a tree and of its neighbours leaves from where it is, or comes to each place above.
func TestEachPlace(t *testing.T) {
	for _, n := range []int{14, 15, 16, 31} {
		for at := range n {
			for _, way := range ways() {
				w := way(t, n)
				w.Cut(0, w.Has[0][at])
				w.Right("Cut")
				for over := range n {
					w := way(t, n)
					i, key := w.Has[0][at], w.Key(w.Has[0][over])
					w.Fall(0, i, min(w.Key(i), key))
					w.Right("Fall to another one's key")
					w.Fall(0, i, min(w.Key(i), max(key, heaptest.Lowest+1)-1))
					w.Right("Fall below another one")
				}
			}
		}
	}
}

// Items change their nodes, so roots stay; a Fall that leaves an item behind its Up's changes nothing.
func TestFallTellsTheSameRoot(t *testing.T) {
	for n := 1; n < 40; n++ {
		w := heaptest.Grown(t, kind(), heaptest.Drawn(n)...)
		root := w.Root[0]
		for _, i := range w.Has[0] {
			w.Stay("P11: Fall to the same key", func() { w.Fall(0, i, w.Key(i)) })
			w.Fall(0, i, heaptest.Lowest)
			if w.Root[0] != root {
				t.Fatalf("P11: Fall: the root %d, must be %d", w.Root[0], root)
			}
		}
		w.Right("Fall of all")
	}
}

// A Meld with None leaves the other heap as it is, its first two trees of the same Rank too.
func TestMeldWithNone(t *testing.T) {
	for n := range 40 {
		w := heaptest.Grown(t, kind(), heaptest.Drawn(n)...)
		r := w.Root[0]
		w.Stay("P11: Meld with None", func() {
			if s, o := skew.Meld(w.A, r, api.None), skew.Meld(w.A, api.None, r); s != r || o != r {
				t.Errorf("P11: Meld of %d items with None: %d, %d, must be %d", n, s, o, r)
			}
		})
	}
}
