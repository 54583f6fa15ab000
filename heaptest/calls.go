package heaptest

import (
	"slices"
	"strconv"

	"thicket/api"
	"thicket/item"
)

func none(t T, k Kind) {
	w := Plant(t, k, 8, 2)
	w.Add(1, 5, 4)
	w.Stay("calls of None", func() {
		w.popNone()
		if i := k.Min(w.A, api.None); i != api.None {
			t.Errorf("%s: Min of None: %d", k.Chapter, i)
		}
		for _, roots := range [][3]int{{api.None, api.None, api.None}, {api.None, w.Root[1], w.Root[1]}, {w.Root[1], api.None, w.Root[1]}} {
			if r := k.Meld(w.A, roots[0], roots[1]); r != roots[2] {
				t.Errorf("%s: Meld(%d, %d): %d, must be %d", k.Chapter, roots[0], roots[1], r, roots[2])
			}
		}
		if l := k.All(w.A, api.None); len(l) > 0 {
			t.Errorf("%s: All of None: %v", k.Chapter, l)
		}
		if l := k.Drop(w.A, api.None); len(l) > 0 {
			t.Errorf("%s: Drop of None: %v", k.Chapter, l)
		}
	})
	w.Right("calls of None")
}

// popNone pops where there is nothing.
func (w *Wood) popNone() {
	w.Helper()
	if r, i := w.Kind.Pop(w.A, api.None); r != api.None || i != api.None {
		w.Errorf("%s: Pop of None: %d, %d", w.Kind.Chapter, r, i)
	}
}

func one(t T, k Kind) {
	ways := []func(w *Wood, i int){
		func(w *Wood, i int) { w.Pop(0) }, func(w *Wood, i int) { w.Cut(0, i) }, func(w *Wood, i int) { w.Drop(0) },
	}
	for _, key := range Edges() {
		for _, leave := range ways {
			w := Plant(t, k, 2, 1)
			i := w.Fresh(key, 0)
			for range 3 {
				w.Push(0, i)
				w.Right("one item")
				w.Fall(0, i, key) // to where it is
				w.Right("a Fall of the one")
				leave(w, i)
				w.Right("none any more")
				w.gone(0)
			}
		}
	}
}

func push(t T, k Kind) {
	for _, l := range Orders(120) {
		w := Plant(t, k, 2*len(l.Keys), 1)
		for at, key := range l.Keys {
			w.Push(0, w.Fresh(key, int64(at)))
			w.Right("Push " + strconv.Itoa(at) + " of " + l.How + " keys")
		}
		w.Drain(0)
		w.Right("all are popped")
	}
}

func pushOfAllOrders(t T, k Kind) {
	for n := range 7 {
		for _, keys := range permutations(n) {
			w := Grown(t, k, keys...)
			w.Right("Push of small heaps")
			w.Drain(0)
		}
	}
}

// No cell for a node: the same root, false, and nothing is changed.
func pushWithoutACell(t T, k Kind) {
	for items := range 9 {
		w := Plant(t, k, 2*items+1, 1)
		w.Add(0, Drawn(items)...)
		i := w.Fresh(Lowest, 99)
		w.Stay("Push without a cell", func() {
			for range 3 {
				w.Within("Push", items+1, func() {
					if r, ok := k.Push(w.A, w.Root[0], i); r != w.Root[0] || ok {
						t.Errorf("%s: Push without a cell: %d %t, must be %d", k.Chapter, r, ok, w.Root[0])
					}
				})
			}
		})
		w.Right("Push without a cell")
		if items == 0 {
			continue
		}
		w.Pop(0) // its node is a cell again
		w.Push(0, i)
		w.Right("Push into the last cell")
		w.Drain(0)
	}
}

// What has left may be pushed again, into the same heap or another one.
func pushAgain(t T, k Kind) {
	w := Plant(t, k, 80, 2)
	w.Add(0, Drawn(30)...)
	for range 50 {
		w.Push(1, w.Pop(0))
		w.Right("Pop and Push")
		if len(w.Has[0]) > 0 {
			continue
		}
		w.Drop(1)
		for len(w.Out) > 0 {
			w.Push(0, w.Out[len(w.Out)-1])
		}
		w.Right("Push of what was dropped")
	}
}

// An item whose Key and Serial another one has too stands by its cell.
func itemsThatAreTheSame(t T, k Kind) {
	w := Plant(t, k, 200, 2)
	for range 60 {
		w.Fresh(5, 5)
	}
	for at, i := range Mix(4).Shuffle(w.Out) {
		w.Push(at%2, i)
		w.Right("Push of items that are the same")
	}
	w.Fall(0, w.Has[0][9], 5)
	w.Meld(0, 1)
	w.Right("Meld of items that are the same")
	for last := -1; len(w.Has[0]) > 0; {
		i := w.Pop(0)
		if i < last {
			t.Fatalf("%s: Pop: item %d behind item %d", k.Chapter, i, last)
		}
		last = i
	}
}

// Of like Keys the Serial decides, of like Serials the Key.
func serials(t T, k Kind) {
	w := Plant(t, k, 40, 1)
	for _, serial := range []int64{3, Lowest, Highest, 0, -1} {
		w.Push(0, w.Fresh(5, serial))
		w.Push(0, w.Fresh(serial, 5))
		w.Right("Push of serials")
	}
	w.Drain(0)
}

func least(t T, k Kind) {
	w := Grown(t, k, 4, 4, 2, 9)
	w.Stay("Min", func() {
		for range 3 {
			if i := k.Min(w.A, w.Root[0]); w.Key(i) != 2 {
				t.Errorf("%s: Min: item %d of key %d", k.Chapter, i, w.Key(i))
			}
		}
	})
	w.Pop(0)
	if i := k.Min(w.A, w.Root[0]); i != w.Has[0][0] {
		t.Errorf("%s: Min of two like keys: item %d, must be the first one, %d", k.Chapter, i, w.Has[0][0])
	}
}

func pop(t T, k Kind) {
	for _, l := range Orders(100) {
		w := Grown(t, k, l.Keys...)
		for len(w.Has[0]) > 0 {
			e := item.Entry(w.A, w.Least(0))
			if got := item.Entry(w.A, w.Pop(0)); got != e {
				t.Fatalf("%s: Pop: %v, was %v", k.Chapter, got, e)
			}
			w.Right("Pop of " + l.How + " keys")
		}
		w.gone(0)
		w.Stay("Pop of None", w.popNone)
	}
}

// Each item of each small heap falls to each place that it may come to.
func fallOfAllOrders(t T, k Kind) {
	const n = 5
	for _, keys := range permutations(n) {
		for at := range n {
			for key := keys[at]; key >= -10; key -= 5 {
				w := Grown(t, k, keys...)
				w.Fall(0, w.Has[0][at], key)
				w.Right("Fall of small heaps")
				w.Drain(0)
			}
		}
	}
}

func fall(t T, k Kind) {
	for _, l := range Orders(90) {
		w := Grown(t, k, l.Keys...)
		items := slices.Clone(w.Has[0])
		for at, i := range items {
			key := []int64{int64(-10000 - at), w.Key(items[at/2]), Lowest}[at%3]
			w.Fall(0, i, min(key, w.Key(i)))
			w.Right("Fall of " + l.How + " keys")
		}
		w.Drain(0)
	}
}

func fallOfTheLeast(t T, k Kind) {
	for n := range 20 {
		w := Grown(t, k, Each(n+1, func(at int) int64 { return int64(at * 7 % 20) })...)
		i := w.Least(0)
		for _, key := range []int64{w.Key(i), -1, -2, -2, Lowest, Lowest} {
			w.Fall(0, i, key)
			w.Right("Fall of the least")
		}
	}
}

func cutOfAllOrders(t T, k Kind) {
	for n := range 7 {
		for _, keys := range permutations(n) {
			for at := range n {
				w := Grown(t, k, keys...)
				w.Cut(0, w.Has[0][at])
				w.Right("Cut of small heaps")
				w.Drain(0)
			}
		}
	}
}

func cut(t T, k Kind) {
	m := Mix(6)
	for _, l := range Orders(90) {
		w := Grown(t, k, l.Keys...)
		for len(w.Has[0]) > 0 {
			i := m.One(w.Has[0])
			e := item.Entry(w.A, i)
			w.Cut(0, i)
			if got := item.Entry(w.A, i); got != e {
				t.Fatalf("%s: Cut: %v, was %v", k.Chapter, got, e)
			}
			w.Right("Cut of " + l.How + " keys")
		}
		w.gone(0)
	}
}

// A Cut of the least item is as a Pop.
func cutOfTheLeast(t T, k Kind) {
	w := Grown(t, k, Drawn(60)...)
	for len(w.Has[0]) > 0 {
		w.Cut(0, w.Least(0))
		w.Right("Cut of the least")
	}
	w.gone(0)
}

func meld(t T, k Kind) {
	for _, l := range Orders(60) {
		for _, n := range []int{0, 1, 2, 3, 7, 8, 30, 59, 60} {
			w := Plant(t, k, 240, 3)
			w.Add(0, l.Keys[:n]...)
			w.Add(1, l.Keys[n:]...)
			w.Add(2, 1, 2, 3)
			w.Meld(0, 1)
			w.Right("Meld of " + strconv.Itoa(n) + " of " + l.How + " keys with the others")
			w.Meld(1, 0)
			w.Right("Meld of none with all")
			w.Meld(1, 0)
			w.Right("Meld of all with none")
			w.Drain(1)
			w.Drain(2)
		}
	}
}

func meldOfManyHeaps(t T, k Kind) {
	const heaps = 32
	w := Plant(t, k, 4*heaps, heaps)
	for h := range heaps {
		w.Add(h, int64(h*13%heaps), int64(-h))
	}
	for half := heaps / 2; half > 0; half /= 2 {
		for h := range half {
			w.Meld(h, half+h)
			w.Right("Meld two by two")
		}
	}
	w.Drain(0)
}

// By rising cell: not by key, and not by when they came. Each list is new memory.
func all(t T, k Kind) {
	m := Mix(8)
	w := Plant(t, k, 100, 1)
	for range 40 {
		w.Fresh(int64(m.Below(20)), 0)
	}
	var told, want [][]int
	for _, i := range m.Shuffle(w.Out) {
		w.Push(0, i)
		w.Stay("All", func() {
			l := k.All(w.A, w.Root[0])
			told, want = append(told, l), append(want, slices.Clone(l))
			k.All(w.A, w.Root[0])
		})
		w.Right("All")
	}
	for at, l := range told {
		if !slices.Equal(l, want[at]) {
			t.Fatalf("R2: All: %v, was %v: its memory was told again", l, want[at])
		}
		for spare := range l[:cap(l)] {
			l[:cap(l)][spare] = -77
		}
	}
	w.Right("lists that were told are written over")
}

func drop(t T, k Kind) {
	for _, l := range Orders(70) {
		for _, n := range []int{0, 1, 2, 3, 40, 70} {
			w := Plant(t, k, 160, 2)
			w.Add(1, 9, 8, 7)
			w.Add(0, l.Keys[:n]...)
			w.Drop(0)
			w.Right("Drop of " + strconv.Itoa(n) + " of " + l.How + " keys")
			for len(w.Out) > 0 { // what was dropped are items as any others
				w.Push(0, w.Out[0])
			}
			w.Right("Push of what was dropped")
			w.Drain(0)
			w.Drain(1)
		}
	}
}

// Two arenas stand each by itself; that two heaps of one arena do, each call sees to.
func arenasStandByThemselves(t T, k Kind) {
	v, w := Grown(t, k, 5, 3, 4, 1), Grown(t, k, 5, 3, 4, 1)
	steps := w.A.Meter().Steps()
	v.Fall(0, v.Has[0][0], -9)
	v.Pop(0)
	v.Cut(0, v.Has[0][2])
	v.Add(0, 8, 9)
	v.Drop(0)
	if w.A.Meter().Steps() != steps {
		t.Errorf("%s: steps of one arena were counted in another", k.Chapter)
	}
	v.Right("calls of one arena")
	w.Right("calls of another arena")
	w.Drain(0)
}

// Links and fields are read and written by the arena's calls alone: what asks or changes something takes a step.
func stepsAreCounted(t T, k Kind) {
	w := Plant(t, k, 60, 2)
	w.Add(0, 5, 3, 4, 1)
	w.Add(1, 6, 2)
	i := w.Fresh(7, 7)
	for _, call := range []func(){
		func() { k.Min(w.A, w.Root[0]) },
		func() { k.All(w.A, w.Root[0]) },
		func() { k.Fall(w.A, w.Root[0], w.Has[0][0]) },
		func() { w.Root[0], _ = k.Push(w.A, w.Root[0], i) },
		func() { w.Root[0] = k.Cut(w.A, w.Root[0], i) },
		func() { w.Root[0] = k.Meld(w.A, w.Root[0], w.Root[1]) },
		func() { w.Root[0], _ = k.Pop(w.A, w.Root[0]) },
		func() { k.Drop(w.A, w.Root[0]) },
	} {
		was := w.A.Meter().Steps()
		call()
		if w.A.Meter().Steps() == was {
			t.Errorf("%s: a call took no step", k.Chapter)
		}
	}
}

// step makes one call of any heap.
func (w *Wood) step(m *Mixed, key func() int64) string {
	w.Helper()
	h, what := m.Below(len(w.Root)), m.Below(40)
	some := len(w.Has[h]) > 0
	switch {
	case what < 18 && len(w.Out) > 0 && w.A.Len() < w.A.Cells():
		w.Push(h, m.One(w.Out))
		return "Push"
	case what < 22 && w.A.Len()+2 <= w.A.Cells():
		w.Add(h, key())
		return "Push of a new one"
	case what < 28 && some:
		w.Pop(h)
		return "Pop"
	case what < 33 && some:
		i := m.One(w.Has[h])
		w.Fall(h, i, min(key(), w.Key(i)))
		return "Fall"
	case what < 37 && some:
		w.Cut(h, m.One(w.Has[h]))
		return "Cut"
	case what < 39:
		w.Meld(h, (h+1+m.Below(len(w.Root)-1))%len(w.Root))
		return "Meld"
	case m.Below(4) == 0:
		w.Drop(h)
		return "Drop"
	}
	return "nothing"
}

func againstPlainSets(t T, k Kind) {
	m := Mix(9)
	keys := []func() int64{
		func() int64 { return int64(m.Below(50)) },
		func() int64 { return int64(m.Below(3)) },
		func() int64 { return int64(m.Next()) },
		func() int64 { return Edges()[m.Below(len(Edges()))] },
	}
	for run := range 40 {
		w := Plant(t, k, 20+m.Below(130), 2+m.Below(3))
		for n := 0; n < 300 && !t.Failed(); n++ {
			what := w.step(m, keys[run%len(keys)])
			w.Right("run " + strconv.Itoa(run) + ", call " + strconv.Itoa(n) + ", " + what)
		}
		for h := range w.Root {
			w.Drain(h)
		}
		w.Right("all are popped")
	}
}
