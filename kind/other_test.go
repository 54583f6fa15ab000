package kind_test

import (
	"math"
	"slices"
	"testing"

	"thicket/api"
	"thicket/arena"
	"thicket/heaptest"
	"thicket/item"
	"thicket/kind"
)

// answers are what the calls of another kind must be: the roots as they were given, else none.
func answers(t *testing.T, k int, a *arena.Arena, r, x int) {
	t.Helper()
	if s, ok := kind.Push(k, a, r, x); s != r || ok {
		t.Errorf("P15.1: Push(%d, a, %d, %d): %d, %t", k, r, x, s, ok)
	}
	if i := kind.Min(k, a, r); i != api.None {
		t.Errorf("P15.1: Min(%d, a, %d): %d", k, r, i)
	}
	if s, i := kind.Pop(k, a, r); s != api.None || i != api.None {
		t.Errorf("P15.1: Pop(%d, a, %d): %d, %d", k, r, s, i)
	}
	if s := kind.Fall(k, a, r, x); s != r {
		t.Errorf("P15.1: Fall(%d, a, %d, %d): %d", k, r, x, s)
	}
	if s := kind.Cut(k, a, r, x); s != r {
		t.Errorf("P15.1: Cut(%d, a, %d, %d): %d", k, r, x, s)
	}
	if s := kind.Meld(k, a, r, x); s != r {
		t.Errorf("P15.1: Meld(%d, a, %d, %d): %d", k, r, x, s)
	}
	if l := kind.All(k, a, r); len(l) > 0 {
		t.Errorf("P15.1: All(%d, a, %d): %v", k, r, l)
	}
	if l := kind.Drop(k, a, r); len(l) > 0 {
		t.Errorf("P15.1: Drop(%d, a, %d): %v", k, r, l)
	}
}

// cells are all numbers of an arena.
func cells(a *arena.Arena) []int64 {
	l := []int64{int64(a.Len())}
	for c := range a.Cells() {
		for field := range api.Fields {
			l = append(l, a.Get(c, field))
		}
	}
	return l
}

// P15.1: calls of another k change nothing, whatever heap, item or number they are given.
func TestOfAnotherKind(t *testing.T) {
	for _, of := range kinds() {
		a := arena.New(20)
		r := api.None
		for key := range int64(5) {
			i, _ := item.New(a, key, 0)
			r, _ = kind.Push(of, a, r, i)
		}
		out, _ := item.New(a, -3, 0)
		was := cells(a)
		for _, k := range noKinds() {
			for _, s := range append(heaptest.NoCells(), r, 0, 1, out) {
				for _, x := range []int{out, 0, 1, r, api.None, math.MinInt, math.MaxInt} {
					answers(t, k, a, s, x)
				}
			}
			if !slices.Equal(cells(a), was) {
				t.Fatalf("P15.1: calls of kind %d have changed a heap of kind %d", k, of)
			}
		}
	}
}

// The chapter tells r of another k, whatever arena there is; R1 asks None only of a kind's own calls.
func TestOfAnotherKindOfANilArena(t *testing.T) {
	for _, k := range noKinds() {
		for _, r := range append(heaptest.NoCells(), 0, 1) {
			answers(t, k, nil, r, 0)
			answers(t, k, arena.New(0), r, math.MaxInt)
		}
	}
}

// mixed is one arena in which each kind has a heap.
type mixed struct {
	t    *testing.T
	a    *arena.Arena
	root map[int]int
	has  map[int][]int
	m    *heaptest.Mixed
}

func (w *mixed) least(k int) int {
	least := api.None
	for _, i := range w.has[k] {
		if least == api.None || item.Before(w.a, i, least) {
			least = i
		}
	}
	return least
}

func (w *mixed) without(k, i int) {
	w.has[k] = slices.DeleteFunc(w.has[k], func(j int) bool { return j == i })
	w.a.Give(i)
}

func (w *mixed) step(k int) {
	w.t.Helper()
	some := len(w.has[k]) > 0
	switch what := w.m.Below(10); {
	case what < 5:
		if i, ok := item.New(w.a, int64(w.m.Below(20)), int64(w.a.Len())); ok {
			r, ok := kind.Push(k, w.a, w.root[k], i)
			w.root[k], w.has[k] = r, append(w.has[k], i)
			if !ok {
				w.without(k, i)
			}
		}
	case what < 7 && some:
		want := w.least(k)
		r, i := kind.Pop(k, w.a, w.root[k])
		if i != want {
			w.t.Fatalf("W1: Pop of kind %d: %d, must be %d", k, i, want)
		}
		w.root[k] = r
		w.without(k, i)
	case what < 8 && some:
		i := w.m.One(w.has[k])
		item.Lower(w.a, i, item.Entry(w.a, i).Key-int64(w.m.Below(20)))
		w.root[k] = kind.Fall(k, w.a, w.root[k], i)
	case what < 9 && some:
		i := w.m.One(w.has[k])
		w.root[k] = kind.Cut(k, w.a, w.root[k], i)
		w.without(k, i)
	}
}

// W1: heaps of all kinds in one arena, each by its own kind's calls.
func TestHeapsOfAllKindsInOneArena(t *testing.T) {
	m := heaptest.Mix(60)
	for range 20 {
		w := &mixed{t: t, a: arena.New(20 + m.Below(200)), root: map[int]int{}, has: map[int][]int{}, m: m}
		for _, k := range kinds() {
			w.root[k] = api.None
		}
		for range 400 {
			w.step(m.One(kinds()))
			for _, k := range kinds() {
				if got := kind.All(k, w.a, w.root[k]); !slices.Equal(got, slices.Sorted(slices.Values(w.has[k]))) {
					t.Fatalf("W1: All of kind %d: %v, must be %v", k, got, w.has[k])
				}
				if got := kind.Min(k, w.a, w.root[k]); got != w.least(k) {
					t.Fatalf("W1: Min of kind %d: %d, must be %d", k, got, w.least(k))
				}
			}
		}
		for _, k := range kinds() {
			for _, i := range kind.Drop(k, w.a, w.root[k]) {
				w.a.Give(i)
			}
		}
		if w.a.Len() != 0 {
			t.Fatalf("W1: %d cells are taken behind Drop of all heaps", w.a.Len())
		}
	}
}
