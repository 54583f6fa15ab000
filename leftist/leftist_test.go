package leftist_test

import (
	"fmt"
	"math/rand"
	"slices"
	"testing"

	"thicket/api"
	"thicket/item"
	"thicket/leftist"
)

// edges are keys next to where numbers end or change their sign.
func edges() []int64 {
	return []int64{0, greatest, least, -1, 1, least + 1, greatest - 1, 1 << 32, -1 << 32, least, greatest, 0}
}

// orders are ways for keys to come: n of them.
func orders(n int) map[string][]int64 {
	q := rand.New(rand.NewSource(3))
	l := map[string][]int64{"rising": nil, "falling": nil, "like": nil, "mixed": nil, "few": nil, "edges": nil}
	for k := range n {
		l["rising"] = append(l["rising"], int64(k))
		l["falling"] = append(l["falling"], int64(-k))
		l["like"] = append(l["like"], 7)
		l["mixed"] = append(l["mixed"], int64(q.Uint64()))
		l["few"] = append(l["few"], int64(q.Intn(5)))
		l["edges"] = append(l["edges"], edges()[k%len(edges())])
	}
	return l
}

// permutations are all orders of the numbers 0 to n - 1, ten times each.
func permutations(n int) [][]int64 {
	if n == 0 {
		return [][]int64{nil}
	}
	var all [][]int64
	for _, l := range permutations(n - 1) {
		for at := range n {
			all = append(all, slices.Insert(slices.Clone(l), at, int64(10*(n-1))))
		}
	}
	return all
}

func TestRun(t *testing.T) {
	w := grown(t, 3, 1, 2)
	for _, want := range []int64{1, 2, 3} {
		if got := item.Entry(w.a, w.pop(0)).Key; got != want {
			t.Errorf("P8.3: Pop: key %d, must be %d", got, want)
		}
	}
	w.right("all are popped")
}

func TestNone(t *testing.T) {
	w := plant(t, 8, 2)
	w.add(1, 5, 4)
	w.mustStay("P8: calls of None", func() {
		if r, i := leftist.Pop(w.a, api.None); r != api.None || i != api.None {
			t.Errorf("P8: Pop of None: %d, %d", r, i)
		}
		if i := leftist.Min(w.a, api.None); i != api.None {
			t.Errorf("P8: Min of None: %d", i)
		}
		if r := leftist.Meld(w.a, api.None, api.None); r != api.None {
			t.Errorf("P8: Meld of None and None: %d", r)
		}
		if r := leftist.Meld(w.a, api.None, w.root[1]); r != w.root[1] {
			t.Errorf("P8: Meld(None, r): %d, must be %d", r, w.root[1])
		}
		if r := leftist.Meld(w.a, w.root[1], api.None); r != w.root[1] {
			t.Errorf("P8: Meld(r, None): %d, must be %d", r, w.root[1])
		}
		if l := leftist.All(w.a, api.None); len(l) > 0 {
			t.Errorf("P8: All of None: %v", l)
		}
		if l := leftist.Drop(w.a, api.None); len(l) > 0 {
			t.Errorf("P8: Drop of None: %v", l)
		}
	})
	w.right("calls of None")
}

func TestOne(t *testing.T) {
	for _, key := range edges() {
		for how, end := range []func(w *wood, i int){
			func(w *wood, i int) { w.pop(0) }, func(w *wood, i int) { w.cut(0, i) }, func(w *wood, i int) { w.drop(0) },
		} {
			w := plant(t, 2, 1)
			i := w.fresh(key, 0)
			for round := range 3 {
				w.push(0, i)
				w.right("one item")
				w.fall(0, i, key) // to where it is
				w.right("a Fall of the one")
				end(w, i)
				w.right(fmt.Sprint("none any more, by way ", how, ", round ", round))
				if w.root[0] != api.None {
					t.Fatalf("P8: the root of no items: %d", w.root[0])
				}
			}
		}
	}
}

func TestPush(t *testing.T) {
	for how, keys := range orders(120) {
		w := plant(t, 2*len(keys), 1)
		for at, key := range keys {
			w.push(0, w.fresh(key, int64(at)))
			w.right(fmt.Sprint("Push ", at, " of ", how, " keys"))
		}
		w.drain(0)
		w.right("all are popped")
	}
}

func TestPushOfAllOrders(t *testing.T) {
	for n := range 7 {
		for _, keys := range permutations(n) {
			w := grown(t, keys...)
			w.right(fmt.Sprint("Push of ", keys))
			w.drain(0)
		}
	}
}

// No cell for a node: the same root, false, and nothing is changed.
func TestPushIntoAFullArena(t *testing.T) {
	for items := range 5 {
		w := plant(t, 2*items+1, 1)
		for at := range items {
			w.add(0, int64(at))
		}
		i := w.fresh(-5, 99)
		w.mustStay("P8: Push without a cell", func() {
			for range 3 {
				w.within("Push", most(items+1), func() {
					if r, ok := leftist.Push(w.a, w.root[0], i); r != w.root[0] || ok {
						t.Errorf("P8: Push without a cell: %d %t, must be %d", r, ok, w.root[0])
					}
				})
			}
		})
		w.right("Push without a cell")
		if items == 0 {
			continue
		}
		w.pop(0) // its node is a cell again
		w.push(0, i)
		w.right("Push into the last cell")
		w.drain(0)
	}
}

// An item whose Key and Serial another one has too stands by its cell.
func TestItemsThatAreTheSame(t *testing.T) {
	q := rand.New(rand.NewSource(4))
	w := plant(t, 200, 2)
	for range 60 {
		w.fresh(5, 5)
	}
	items := slices.Clone(w.out)
	q.Shuffle(len(items), func(k, l int) { items[k], items[l] = items[l], items[k] })
	for at, i := range items {
		w.push(at%2, i)
		w.right("Push of items that are the same")
	}
	w.fall(0, w.has[0][9], 5)
	w.meld(0, 1)
	w.right("Meld of items that are the same")
	last := -1
	for len(w.has[0]) > 0 {
		i := w.pop(0)
		if i < last {
			t.Fatalf("P8.3: item %d behind item %d", i, last)
		}
		last = i
	}
}

// Of like Keys the Serial decides, of like Serials the Key.
func TestSerials(t *testing.T) {
	w := plant(t, 40, 1)
	for _, serial := range []int64{3, least, greatest, 0, -1} {
		w.push(0, w.fresh(5, serial))
		w.push(0, w.fresh(serial, 5))
		w.right("Push of serials")
	}
	w.drain(0)
}

func TestMin(t *testing.T) {
	w := grown(t, 4, 4, 2, 9)
	w.mustStay("P8: Min", func() {
		for range 3 {
			if i := leftist.Min(w.a, w.root[0]); item.Entry(w.a, i).Key != 2 {
				t.Errorf("P8: Min: item %d: %v", i, item.Entry(w.a, i))
			}
		}
	})
	w.pop(0)
	if i := leftist.Min(w.a, w.root[0]); i != w.has[0][0] {
		t.Errorf("P8: Min of two like keys: item %d, must be the first one, %d", i, w.has[0][0])
	}
}

func TestPop(t *testing.T) {
	for how, keys := range orders(100) {
		w := grown(t, keys...)
		for len(w.has[0]) > 0 {
			e := item.Entry(w.a, w.least(0))
			i := w.pop(0)
			if got := item.Entry(w.a, i); got != e {
				t.Fatalf("P8: Pop: %v, was %v", got, e)
			}
			w.right("Pop of " + how + " keys")
		}
		w.mustStay("P8: Pop of None", func() { w.pop0() })
	}
}

// pop0 pops where there is nothing.
func (w *wood) pop0() {
	w.t.Helper()
	if r, i := leftist.Pop(w.a, w.root[0]); r != api.None || i != api.None {
		w.t.Errorf("P8: Pop of None: %d, %d", r, i)
	}
}

// What was popped may be pushed again, into the same heap or another one.
func TestPushAgain(t *testing.T) {
	w := plant(t, 80, 2)
	w.add(0, orders(30)["mixed"]...)
	for range 50 {
		i := w.pop(0)
		if item.Lower(w.a, i, item.Entry(w.a, i).Key) {
			w.push(1, i)
		}
		w.right("Pop and Push")
		if len(w.has[0]) == 0 {
			w.drop(1)
			for len(w.out) > 0 {
				w.push(0, w.out[len(w.out)-1])
			}
			w.right("Push of what was dropped")
		}
	}
}

// Each item of each small heap falls to each place that it may come to.
func TestFallOfAllOrders(t *testing.T) {
	const n = 5
	for _, keys := range permutations(n) {
		for at := range n {
			for key := int64(10 * n); key >= -10; key -= 5 {
				if key > keys[at] {
					continue
				}
				w := grown(t, keys...)
				w.fall(0, w.has[0][at], key)
				w.right(fmt.Sprint("Fall of ", keys[at], " to ", key, " of ", keys))
				w.drain(0)
			}
		}
	}
}

// A Fall that leaves an item behind its Up's changes nothing; one of the root tells the root.
func TestFallThatMovesNothing(t *testing.T) {
	w := grown(t, orders(40)["rising"]...)
	for _, i := range w.has[0] {
		w.mustStay("P8: Fall to the same key", func() { w.fall(0, i, item.Entry(w.a, i).Key) })
	}
	root := w.root[0]
	for _, key := range []int64{-1, -2, -2, least, least} {
		w.fall(0, w.least(0), key)
		if w.root[0] != root {
			t.Errorf("P8: Fall of the root's item: %d, must be %d", w.root[0], root)
		}
		w.right("Fall of the root's item")
	}
}

func TestFall(t *testing.T) {
	for how, keys := range orders(90) {
		w := grown(t, keys...)
		items := slices.Clone(w.has[0])
		for at, i := range items {
			key := item.Entry(w.a, i).Key
			switch at % 3 {
			case 0:
				key = min(key, int64(-10000-at)) // the least but for the edges
			case 1:
				key = min(key, item.Entry(w.a, items[at/2]).Key)
			default:
				key = least
			}
			w.fall(0, i, key)
			w.right("Fall of " + how + " keys")
		}
		w.drain(0)
	}
}

func TestCutOfAllOrders(t *testing.T) {
	for n := range 7 {
		for _, keys := range permutations(n) {
			for at := range n {
				w := grown(t, keys...)
				w.cut(0, w.has[0][at])
				w.right(fmt.Sprint("Cut of ", keys[at], " of ", keys))
				w.drain(0)
			}
		}
	}
}

func TestCut(t *testing.T) {
	q := rand.New(rand.NewSource(6))
	for how, keys := range orders(90) {
		w := grown(t, keys...)
		for n := len(keys); n > 0; n-- {
			i := w.has[0][q.Intn(n)]
			e := item.Entry(w.a, i)
			w.cut(0, i)
			if got := item.Entry(w.a, i); got != e {
				t.Fatalf("P8: Cut: %v, was %v", got, e)
			}
			w.right("Cut of " + how + " keys")
		}
		if w.root[0] != api.None {
			t.Fatalf("P8: the root of no items: %d", w.root[0])
		}
	}
}

// A Cut of the least item is as a Pop.
func TestCutOfTheLeast(t *testing.T) {
	w := grown(t, orders(60)["mixed"]...)
	for len(w.has[0]) > 0 {
		w.cut(0, w.least(0))
		w.right("Cut of the least")
	}
	if w.root[0] != api.None {
		t.Errorf("P8: the root of no items: %d", w.root[0])
	}
}

func TestMeld(t *testing.T) {
	for how, keys := range orders(60) {
		for _, n := range []int{0, 1, 2, 3, 7, 8, 30, 59, 60} {
			w := plant(t, 240, 3)
			w.add(0, keys[:n]...)
			w.add(1, keys[n:]...)
			w.add(2, 1, 2, 3)
			w.meld(0, 1)
			w.right(fmt.Sprint("Meld of ", n, " of ", how, " keys with the others"))
			w.meld(1, 0)
			w.right("Meld of none with all")
			w.meld(1, 0)
			w.right("Meld of all with none")
			w.drain(1)
			w.drain(2)
		}
	}
}

func TestMeldOfManyHeaps(t *testing.T) {
	const heaps = 32
	w := plant(t, 4*heaps, heaps)
	for h := range heaps {
		w.add(h, int64(h*13%heaps), int64(-h))
	}
	for half := heaps / 2; half > 0; half /= 2 {
		for h := range half {
			w.meld(h, half+h)
			w.right("Meld two by two")
		}
	}
	w.drain(0)
}

// By rising cell: not by key, and not by when they came.
func TestAll(t *testing.T) {
	q := rand.New(rand.NewSource(8))
	w := plant(t, 100, 1)
	for range 40 {
		w.fresh(int64(q.Intn(20)), 0)
	}
	items := slices.Clone(w.out)
	q.Shuffle(len(items), func(k, l int) { items[k], items[l] = items[l], items[k] })
	for _, i := range items {
		w.push(0, i)
		w.mustStay("P8: All", func() {
			leftist.All(w.a, w.root[0])
			leftist.All(w.a, w.root[0])
		})
		w.right("All")
	}
	l := leftist.All(w.a, w.root[0])
	want := slices.Clone(l)
	for at := range l[:cap(l)] {
		l[:cap(l)][at] = -77
	}
	if got := leftist.All(w.a, w.root[0]); !slices.Equal(got, want) {
		t.Errorf("R2: All: %v, must be %v: its memory was told earlier", got, want)
	}
}

func TestDrop(t *testing.T) {
	for how, keys := range orders(70) {
		for _, n := range []int{0, 1, 2, 3, 40, 70} {
			w := plant(t, 160, 2)
			w.add(1, 9, 8, 7)
			w.add(0, keys[:n]...)
			w.drop(0)
			w.right(fmt.Sprint("Drop of ", n, " of ", how, " keys"))
			for len(w.out) > 0 { // what was dropped are items as any others
				w.push(0, w.out[0])
			}
			w.right("Push of what was dropped")
			w.drain(0)
			w.drain(1)
		}
	}
}

// Two arenas, and two heaps of one, stand each by itself; call sees to the latter.
func TestArenasStandByThemselves(t *testing.T) {
	v, w := grown(t, 5, 3, 4, 1), grown(t, 5, 3, 4, 1)
	steps := w.a.Meter().Steps()
	v.fall(0, v.has[0][0], -9)
	v.pop(0)
	v.cut(0, v.has[0][2])
	v.add(0, 8, 9)
	v.drop(0)
	if w.a.Meter().Steps() != steps {
		t.Errorf("P8.2: steps of one arena were counted in another")
	}
	v.right("calls of one arena")
	w.right("calls of another arena")
	w.drain(0)
}

// Links and fields are read and written by the arena's calls alone: what asks or changes something takes a step.
func TestStepsAreCounted(t *testing.T) {
	w := plant(t, 60, 2)
	w.add(0, 5, 3, 4, 1)
	w.add(1, 6, 2)
	i := w.fresh(7, 7)
	for _, call := range []func(){
		func() { leftist.Min(w.a, w.root[0]) },
		func() { leftist.All(w.a, w.root[0]) },
		func() { leftist.Fall(w.a, w.root[0], w.has[0][0]) },
		func() { w.root[0], _ = leftist.Push(w.a, w.root[0], i) },
		func() { w.root[0] = leftist.Cut(w.a, w.root[0], i) },
		func() { w.root[0] = leftist.Meld(w.a, w.root[0], w.root[1]) },
		func() { w.root[0], _ = leftist.Pop(w.a, w.root[0]) },
		func() { leftist.Drop(w.a, w.root[0]) },
	} {
		was := w.a.Meter().Steps()
		call()
		if w.a.Meter().Steps() == was {
			t.Errorf("P8.2: a call took no step")
		}
	}
}

// step makes one call of a heap that is drawn, of the arena and of the plain answer both.
func (w *wood) step(q *rand.Rand, key func() int64) string {
	w.t.Helper()
	h := q.Intn(len(w.root))
	drawn := func() int { return w.has[h][q.Intn(len(w.has[h]))] }
	k, some := q.Intn(40), len(w.has[h]) > 0
	switch {
	case k < 18 && len(w.out) > 0 && w.a.Len() < w.a.Cells():
		w.push(h, w.out[q.Intn(len(w.out))])
		return "Push"
	case k < 22 && w.a.Len()+2 <= w.a.Cells():
		w.add(h, key())
		return "Push of a new one"
	case k < 28 && some:
		w.pop(h)
		return "Pop"
	case k < 33 && some:
		i := drawn()
		w.fall(h, i, min(key(), item.Entry(w.a, i).Key))
		return "Fall"
	case k < 37 && some:
		w.cut(h, drawn())
		return "Cut"
	case k < 39:
		w.meld(h, (h+1+q.Intn(len(w.root)-1))%len(w.root))
		return "Meld"
	case q.Intn(4) == 0:
		w.drop(h)
		return "Drop"
	}
	return "nothing"
}

func TestAgainstPlainSets(t *testing.T) {
	q := rand.New(rand.NewSource(9))
	keys := []func() int64{
		func() int64 { return int64(q.Intn(50)) },
		func() int64 { return int64(q.Intn(3)) },
		func() int64 { return int64(q.Uint64()) },
		func() int64 { return edges()[q.Intn(len(edges()))] },
	}
	for run := range 40 {
		w := plant(t, 20+q.Intn(130), 2+q.Intn(3))
		for n := range 300 {
			what := w.step(q, keys[run%len(keys)])
			w.right(fmt.Sprint("run ", run, ", call ", n, ", ", what))
			if t.Failed() {
				t.FailNow()
			}
		}
		for h := range w.root {
			w.drain(h)
		}
		w.right("all are popped")
	}
}
