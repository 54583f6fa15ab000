package pairing_test

import (
	"slices"
	"testing"

	"thicket/api"
	"thicket/heaptest"
	"thicket/pairing"
)

func rising(n int) []int64 { return heaptest.Each(n, func(at int) int64 { return int64(at) }) }

func falling(n int) []int64 { return heaptest.Each(n, func(at int) int64 { return int64(-at) }) }

// mustTakeMore runs one call that must take more steps than P13.2 adds for it, for so many links must it make; what all calls take together is held all the same.
func mustTakeMore(w *heaptest.Wood, what string, call func()) {
	w.Helper()
	was, most := w.A.Meter().Steps(), heaptest.Most(what, len(w.Has[0])+len(w.Has[1]))
	call()
	if got := w.A.Meter().Steps() - was; got <= most {
		w.Errorf("P13.1: %s: %d steps, so it can't have linked all children", what, got)
	}
	w.Right(what)
}

// As many children as there may be: one call makes them one. It takes more steps than others, but all calls together do not.
func TestManyChildren(t *testing.T) {
	const many = api.MaxCells/2 - 1
	for _, c := range []struct {
		what string
		call func(w *heaptest.Wood)
	}{
		{"Pop", func(w *heaptest.Wood) { w.Pop(0) }},
		{"Cut", func(w *heaptest.Wood) { w.Cut(0, w.Least(0)) }},
	} {
		w := heaptest.Greatly(t, kind(), api.MaxCells, 2)
		w.Add(0, rising(many)...)
		mustTakeMore(w, c.what, func() { c.call(w) })
		c.call(w)
		w.Right(c.what + " once more")
		w.Drain(0)
	}
}

// The same of a node that is not the root: its children are linked with the root as one.
func TestCutOfAChildWithManyChildren(t *testing.T) {
	const many = api.MaxCells/2 - 2
	w := heaptest.Greatly(t, kind(), api.MaxCells, 2)
	w.Add(0, rising(many)...)
	first := w.Has[0][0]
	w.Add(0, -1)
	mustTakeMore(w, "Cut", func() { w.Cut(0, first) })
	if n := len(seen(w, 0).below); n != 1 {
		t.Errorf("P13.1: Cut: the root has %d children, must have 1", n)
	}
	w.Drain(0)
}

// Children that are made one again and again: each time all of them have come to the root anew.
func TestManyChildrenAgain(t *testing.T) {
	const many = 1 << 13
	w := heaptest.Greatly(t, kind(), 2*many+2, 2)
	w.Add(0, rising(many)...)
	for round := range int64(8) {
		w.Push(0, w.Fresh(heaptest.Lowest, round))
		for _, i := range slices.Clone(w.Has[0][:many]) {
			w.Fall(0, i, w.Key(i)-1)
		}
		mustTakeMore(w, "Pop", func() { w.Pop(0) })
		w.A.Give(w.Out[0])
		w.Out = nil
	}
	w.Drain(0)
}

// Falling keys make a heap as deep as it has items: what goes from node to node there takes too many steps, and calls within calls go too deep.
func TestDeepHeap(t *testing.T) {
	const many = api.MaxCells/2 - 1
	w := heaptest.Greatly(t, kind(), api.MaxCells, 2)
	w.Add(0, falling(many)...)
	l := slices.Clone(w.Has[0])
	depth := 0
	for n := w.Root[0]; n != api.None; n = w.A.Cell(n, api.Down) {
		depth++
	}
	if depth != many {
		t.Fatalf("P13.1: the heap is %d deep, must be %d", depth, many)
	}
	w.Fall(0, l[0], -2*many)
	w.Right("Fall of the deepest to the least")
	w.Fall(0, l[1], -many/2)
	w.Right("Fall of a deep one to the middle")
	w.Fall(0, l[many/2], -many/2)
	w.Right("Fall of the middle one")
	w.Cut(0, l[3])
	w.Cut(0, l[many/2+1])
	w.Right("Cut of deep ones")
	w.Meld(1, 0)
	w.Right("Meld of none with a deep one")
	for range 100 {
		w.Pop(1)
	}
	w.Right("Pop")
	w.Drop(1)
	w.Right("Drop")
}

// So many calls of each kind, of heaps with many children or deep ones, that what takes as many steps as there are items takes too many in all.
func TestManyCalls(t *testing.T) {
	const many = 1 << 14
	calls := map[string]func(w *heaptest.Wood, at int){
		"Push":                  func(w *heaptest.Wood, at int) { w.Add(0, many) },
		"Push of the least":     func(w *heaptest.Wood, at int) { w.Add(0, int64(-many-at)) },
		"Min":                   func(w *heaptest.Wood, at int) { w.Within("Min", many, func() { pairing.Min(w.A, w.Root[0]) }) },
		"Pop":                   func(w *heaptest.Wood, at int) { popAndPush(w, int64(many+at)) },
		"Fall to the same key":  func(w *heaptest.Wood, at int) { w.Fall(0, w.Has[0][at], w.Key(w.Has[0][at])) },
		"Fall to the least":     func(w *heaptest.Wood, at int) { w.Fall(0, w.Has[0][at], int64(-many-at)) },
		"Fall of the last ones": func(w *heaptest.Wood, at int) { w.Fall(0, w.Has[0][many-1-at], int64(-many-at)) },
		"Meld with a greater":   func(w *heaptest.Wood, at int) { w.Add(1, many); w.Meld(0, 1) },
		"Meld with a lesser":    func(w *heaptest.Wood, at int) { w.Add(1, int64(-many-at)); w.Meld(0, 1) },
		"Meld of a greater":     func(w *heaptest.Wood, at int) { w.Add(1, many); meldTurned(w) },
		"Meld of a lesser":      func(w *heaptest.Wood, at int) { w.Add(1, int64(-many-at)); meldTurned(w) },
	}
	for what, call := range calls {
		for _, keys := range [][]int64{rising(many), falling(many)} {
			w := heaptest.Greatly(t, kind(), api.MaxCells, 2)
			w.Add(0, keys...)
			for at := range many {
				call(w, at)
				if t.Failed() {
					t.Fatalf("%s, call %d", what, at)
				}
			}
			w.Right(what)
			w.Drain(0)
		}
	}
}

// As many items as there may be are cut one behind the other, the last one or the first one first: of many children, or of a deep heap from the root on or from its end.
func TestCutOfAll(t *testing.T) {
	const all = api.MaxCells / 2
	for _, keys := range [][]int64{rising(all), falling(all)} {
		for turned := range 2 {
			w := heaptest.Greatly(t, kind(), api.MaxCells, 1)
			w.Add(0, keys...)
			if turned == 1 {
				slices.Reverse(w.Has[0])
			}
			for n := all; n > 0; n-- {
				w.Cut(0, w.Has[0][n-1])
			}
			w.Right("Cut of all")
		}
	}
}

// popAndPush pops the least one and pushes it again, of another key. The heap alone is asked which it is: to look for it among so many takes too long, and Right sees to that later.
func popAndPush(w *heaptest.Wood, key int64) {
	w.Helper()
	i := api.None
	w.Within("Pop", len(w.Has[0]), func() { w.Root[0], i = pairing.Pop(w.A, w.Root[0]) })
	w.A.Set(i, api.Key, key)
	w.Within("Push", len(w.Has[0]), func() { w.Root[0], _ = pairing.Push(w.A, w.Root[0], i) })
}

// meldTurned makes heap 1's items heap 0's, but names heap 1 first.
func meldTurned(w *heaptest.Wood) {
	w.Helper()
	w.Has[0] = append(w.Has[0], w.Has[1]...)
	w.Within("Meld", len(w.Has[0]), func() { w.Root[0] = pairing.Meld(w.A, w.Root[1], w.Root[0]) })
	w.Root[1], w.Has[1] = api.None, nil
}
