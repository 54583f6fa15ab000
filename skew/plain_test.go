package skew_test

import (
	"reflect"
	"slices"
	"testing"

	"thicket/api"
	"thicket/heaptest"
	"thicket/skewnum"
)

// plain is a tree as the chapter tells of it: its Rank, its item, its children, the first one first.
type plain struct {
	rank, item int
	below      []plain
}

// read are the trees from n on, each with what is below it.
func read(w *heaptest.Wood, n int) []plain {
	var l []plain
	for ; n != api.None; n = w.A.Cell(n, api.Right) {
		below := read(w, w.A.Cell(n, api.Down))
		l = append(l, plain{rank: int(w.A.Get(n, api.Rank)), item: w.A.Cell(n, api.Item), below: below})
	}
	return l
}

// link is the one of two whose item is before the other's, and the other one is its first child.
func link(w *heaptest.Wood, p, q plain) plain {
	if w.Compare(q.item, p.item) < 0 {
		p, q = q, p
	}
	return plain{rank: p.rank + 1, item: p.item, below: slices.Concat([]plain{q}, p.below)}
}

// pushed are the trees of a heap with one item more.
func pushed(w *heaptest.Wood, l []plain, i int) []plain {
	if len(l) < 2 || l[0].rank != l[1].rank {
		return slices.Concat([]plain{{item: i}}, l)
	}
	t := link(w, l[0], l[1])
	if w.Compare(i, t.item) < 0 {
		i, t.item = t.item, i
	}
	t.below = slices.Concat([]plain{{item: i}}, t.below)
	return slices.Concat([]plain{t}, l[2:])
}

// mustPush pushes an item and holds what comes of it against the words of the chapter.
func mustPush(w *heaptest.Wood, what string, key int64) {
	w.Helper()
	i := w.Fresh(key, int64(w.A.Len()))
	want := pushed(w, read(w, w.Root[0]), i)
	w.Push(0, i)
	if got := read(w, w.Root[0]); !reflect.DeepEqual(got, want) {
		w.Fatalf("P11.1: Push, %s: %v, must be %v", what, got, want)
	}
}

// Which item is where, of each Push.
func TestPushMakesThatTree(t *testing.T) {
	for _, l := range heaptest.Orders(150) {
		w := heaptest.Plant(t, kind(), 300, 1)
		for _, key := range l.Keys {
			mustPush(w, l.How+" keys", key)
		}
		w.Right("Push of " + l.How + " keys")
	}
}

// All orders of a link and a single node: the single one's item is the first, the middle or the last of three.
func TestPushOfThree(t *testing.T) {
	for _, keys := range [][]int64{{1, 2, 3}, {1, 3, 2}, {2, 1, 3}, {2, 3, 1}, {3, 1, 2}, {3, 2, 1}, {5, 5, 5}, {5, 5, 4}, {4, 5, 5}} {
		w := heaptest.Plant(t, kind(), 6, 1)
		for _, key := range keys {
			mustPush(w, "three", key)
		}
		mustRanks(w, "Push of three", 1)
		w.Right("Push of three")
	}
}

// Of heaps that were popped, cut and melded too.
func TestPushIntoAnyHeap(t *testing.T) {
	m := heaptest.Mix(22)
	for n := range 60 {
		for _, way := range ways() {
			w := way(t, n)
			for range 8 {
				mustPush(w, "a heap of any kind", int64(m.Next()))
			}
			w.Right("Push into a heap of any kind")
		}
	}
}

// without is what a heap's Ranks must be once the tree l[at] has lost its top node: the others and its children, but for the single ones, are added up, and the single ones are pushed again.
func without(l []plain, at int) []int {
	sum, single := 0, 0
	for k, t := range l {
		if k != at {
			sum += 1 << t.rank
		}
	}
	for k, t := range l[at].below {
		if t.rank == 0 && k < len(l[at].below)-1 {
			single++
		} else {
			sum += 1 << t.rank
		}
	}
	var ranks []int
	for k := range 20 {
		if sum>>k&1 == 1 {
			ranks = append(ranks, k)
		}
	}
	for range single {
		ranks = skewnum.Inc(ranks)
	}
	return ranks
}

// top is the tree that has an item.
func top(l []plain, i int) int {
	return slices.IndexFunc(l, func(t plain) bool {
		return t.item == i || top(t.below, i) >= 0
	})
}

// mustPop takes an item out, by Pop or by Cut, and holds the Ranks that are left.
func mustPop(w *heaptest.Wood, what string, i int, leave func()) {
	w.Helper()
	l := read(w, w.Root[0])
	want := without(l, top(l, i))
	leave()
	mustRanks(w, what, want...)
	w.Right(what)
}

func TestPopPushesSingleChildrenAgain(t *testing.T) {
	w := heaptest.Grown(t, kind(), 5, 6, 7)
	w.Pop(0)
	mustRanks(w, "Pop of three", 0, 0) // a link of these would be of Rank 1
	w.Right("Pop of three")
	m := heaptest.Mix(23)
	for n := 1; n < 80; n++ {
		for _, way := range ways() {
			w := way(t, n)
			mustPop(w, "Pop", w.Least(0), func() { w.Pop(0) })
			w = way(t, n)
			i := m.One(w.Has[0])
			mustPop(w, "Cut", i, func() { w.Cut(0, i) })
		}
	}
}
