package heaptest

import "thicket/api"

// Many is how many items great heaps have.
const Many = 1 << 13

// Greatly is a wood of great heaps, in which calls are held against their steps and the plain answer alone.
func Greatly(t T, k Kind, cells, heaps int) *Wood {
	t.Helper()
	w := Plant(t, k, cells, heaps)
	w.Great = true
	return w
}

func greatHeaps(t T, k Kind) {
	for _, l := range Orders(Many) {
		m := Mix(10)
		w := Greatly(t, k, 2*Many, 1)
		w.Add(0, l.Keys...)
		w.Right("Push of " + l.How + " keys")
		for range 400 {
			i := m.One(w.Has[0])
			w.Fall(0, i, min(w.Key(i), int64(m.Below(Many)-Many/2)))
		}
		w.Right("Fall of " + l.How + " keys")
		for range 400 {
			w.Cut(0, m.One(w.Has[0]))
		}
		w.Right("Cut of " + l.How + " keys")
		w.Drain(0)
		w.Right("all are popped")
	}
}

func meldOfGreatHeaps(t T, k Kind) {
	for _, l := range Orders(Many) {
		for _, n := range []int{1, 1000, Many / 2, Many - 1} {
			w := Greatly(t, k, 2*Many, 2)
			w.Add(0, l.Keys[:n]...)
			w.Add(1, l.Keys[n:]...)
			w.Meld(0, 1)
			w.Right("Meld of " + l.How + " keys")
			w.Drop(0)
			w.Right("Drop of " + l.How + " keys")
		}
	}
}

// As many items as there may be, and no cell for the node of one more.
func allCells(t T, k Kind) {
	w := Greatly(t, k, api.MaxCells, 1)
	w.Add(0, Drawn(api.MaxCells/2-1)...)
	i, j := w.Fresh(Lowest, 0), w.Fresh(Lowest, 1)
	w.Right("all cells are taken")
	if r, ok := k.Push(w.A, w.Root[0], i); r != w.Root[0] || ok {
		t.Errorf("%s: Push without a cell: %d %t", k.Chapter, r, ok)
	}
	w.Right("Push without a cell")
	w.A.Give(j)
	w.Out = without(w.Out, j)
	w.Push(0, i)
	w.Right("Push into the last cell")
	w.Drain(0)
	w.Right("all are popped")
}
