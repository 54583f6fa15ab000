package pairing_test

import (
	"testing"

	"thicket/api"
	"thicket/heaptest"
	"thicket/pairing"
)

// kind holds steps against P13.2: of all calls together, by how many items all heaps of the arena have.
func kind() heaptest.Kind {
	return heaptest.Kind{
		Chapter: "P13",
		Push:    pairing.Push, Min: pairing.Min, Pop: pairing.Pop, Fall: pairing.Fall,
		Cut: pairing.Cut, Meld: pairing.Meld, All: pairing.All, Drop: pairing.Drop,
		Shape: shape, Most: heaptest.Most, Together: true, Shared: true,
	}
}

// shape is P13.1: the root is the only one of a row of none above.
func shape(w *heaptest.Wood, what string, r int) int {
	w.Helper()
	return row(w, what, int64(r), api.None)
}

// row tells how many nodes there are from the first one of a row on, below them too. Of Rank and Mark the chapter says nothing.
func row(w *heaptest.Wood, what string, first, up int64) int {
	w.Helper()
	all := 0
	for n, left := first, int64(api.None); n != api.None; {
		has := w.Row(int(n))
		right := has[api.Right]
		if up == api.None {
			right = api.None
		}
		w.Node(what, int(n), heaptest.Links{Up: up, Down: has[api.Down], Left: left, Right: right, Rank: has[api.Rank], Mark: has[api.Mark]})
		all += 1 + row(w, what, has[api.Down], n)
		n, left = right, n
	}
	return all
}

func TestAsEveryKind(t *testing.T) {
	for _, test := range heaptest.Tests() {
		t.Run(test.Name, func(t *testing.T) { test.Run(t, kind()) })
	}
}

func TestRun(t *testing.T) {
	w := heaptest.Grown(t, kind(), 2, 1)
	if i := pairing.Min(w.A, w.Root[0]); w.Key(i) != 1 {
		t.Errorf("P13: Min: key %d, must be 1", w.Key(i))
	}
}

// Fall of the root: the root, and nothing else, however low its key is.
func TestFallOfTheRoot(t *testing.T) {
	for n := range 40 {
		w := heaptest.Grown(t, kind(), heaptest.Drawn(n+1)...)
		for len(w.Has[0]) > 0 {
			i, root := w.Least(0), w.Root[0]
			for _, key := range []int64{w.Key(i), max(w.Key(i), heaptest.Lowest+1) - 1, heaptest.Lowest} {
				w.Fall(0, i, key)
				w.Stay("P13.1: Fall of the root", func() {
					if r := pairing.Fall(w.A, root, i); r != root || w.Root[0] != root {
						t.Errorf("P13.1: Fall of the root: %d and %d, must be %d", w.Root[0], r, root)
					}
				})
			}
			w.Right("Fall of the root")
			w.Pop(0)
		}
	}
}

// The root of two heaps is one of both roots: of the item that is before the other's, whichever is named first.
func TestMeldTellsTheLesserRoot(t *testing.T) {
	for _, keys := range [][2]int64{{1, 2}, {2, 1}, {5, 5}, {heaptest.Lowest, heaptest.Highest}, {heaptest.Highest, heaptest.Lowest}} {
		for h := range 2 {
			w := heaptest.Plant(t, kind(), 8, 2)
			w.Add(0, keys[0])
			w.Add(1, keys[1])
			want := w.Root[0]
			if keys[1] < keys[0] {
				want = w.Root[1]
			}
			w.Meld(h, 1-h)
			if w.Root[h] != want {
				t.Errorf("P13.1: Meld of %v: %d, must be %d", keys, w.Root[h], want)
			}
			w.Right("Meld")
		}
	}
}
