package heaptest_test

import (
	"runtime"
	"slices"
	"sync"
	"testing"

	"thicket/api"
	"thicket/arena"
	"thicket/heaptest"
	"thicket/item"
	"thicket/leftist"
)

// told is what a test says of a kind.
type told struct {
	failed bool
}

func (f *told) Helper()               {}
func (f *told) Failed() bool          { return f.failed }
func (f *told) Errorf(string, ...any) { f.failed = true }
func (f *told) Fatalf(string, ...any) {
	f.failed = true
	runtime.Goexit()
}

// fails tells whether a kind fails a test. The test has a goroutine of its own, for it may end at any place.
func fails(test heaptest.Test, k heaptest.Kind) bool {
	f := &told{}
	var wait sync.WaitGroup
	wait.Go(func() { test.Run(f, k) })
	wait.Wait()
	return f.failed
}

// sound is a kind that is as it must be. Of its shape it says nothing.
func sound() heaptest.Kind {
	return heaptest.Kind{
		Chapter: "P0",
		Push:    leftist.Push, Min: leftist.Min, Pop: leftist.Pop, Fall: leftist.Fall,
		Cut: leftist.Cut, Meld: leftist.Meld, All: leftist.All, Drop: leftist.Drop,
		Shape: func(w *heaptest.Wood, what string, r int) int { return len(leftist.All(w.A, r)) },
		Most:  heaptest.Most,
	}
}

func TestSoundKind(t *testing.T) {
	for _, test := range heaptest.Tests() {
		if fails(test, sound()) {
			t.Errorf("%s: a kind that is as it must be fails", test.Name)
		}
	}
}

// together is a sound kind of which a Push now and then takes more steps than it may, but never all calls more than they may together.
func together() heaptest.Kind {
	k := sound()
	k.Together = true
	k.Push = func(a *arena.Arena, r, i int) (int, bool) {
		if a != nil && a.Len()%16 == 15 {
			a.Meter().Tick(6 * api.A)
		}
		return leftist.Push(a, r, i)
	}
	return k
}

func TestStepsTogether(t *testing.T) {
	for _, test := range heaptest.Tests() {
		if fails(test, together()) {
			t.Errorf("%s: a kind whose steps are held together fails", test.Name)
		}
	}
	mustTell(t, "a call takes too many steps", func(k *heaptest.Kind) {
		*k = together()
		k.Together = false
	})
	mustTell(t, "all calls take too many steps", func(k *heaptest.Kind) {
		*k = together()
		k.Fall = func(a *arena.Arena, r, i int) int {
			if a != nil {
				a.Meter().Tick(10 * api.A)
			}
			return leftist.Fall(a, r, i)
		}
	})
	mustTell(t, "Min takes steps that others left", func(k *heaptest.Kind) {
		*k = together()
		k.Min = func(a *arena.Arena, r int) int {
			if a != nil && a.Len() > 30 {
				a.Meter().Tick(10 * api.A)
			}
			return leftist.Min(a, r)
		}
	})
}

// How many items each call is held against: those of its heaps, or of all heaps of the arena.
func TestCount(t *testing.T) {
	for shared, want := range map[bool][]int{
		false: {1, 1, 2, 1, 2, 2, 2, 2, 1, 1, 0, 0, 1, 1, 1},
		true:  {1, 2, 3, 4, 4, 4, 3, 3, 2, 2, 2, 2, 2, 2, 2},
	} {
		var got []int
		k := sound()
		k.Shared = shared
		k.Most = func(call string, n int) int64 {
			got = append(got, n)
			return heaptest.Most(call, n)
		}
		w := heaptest.Plant(t, k, 8, 3)
		w.Add(2, 1)
		w.Add(0, 5, 6)
		w.Add(1, 7)
		w.Fall(0, w.Has[0][0], 4)
		w.Pop(0)
		w.Meld(0, 1)
		w.Cut(0, w.Has[0][1])
		w.Right("one item in each of two heaps") // All and Min of each of three
		w.Drop(0)
		if !slices.Equal(got, want) {
			t.Errorf("calls are held against %v, must be %v", got, want)
		}
	}
}

// mustTell makes a sound kind faulty, and sees that a test tells it.
func mustTell(t *testing.T, what string, spoil func(k *heaptest.Kind)) {
	t.Helper()
	k := sound()
	spoil(&k)
	if !slices.ContainsFunc(heaptest.Tests(), func(test heaptest.Test) bool { return fails(test, k) }) {
		t.Errorf("%s: no test fails", what)
	}
}

func TestFaultsOfPush(t *testing.T) {
	mustTell(t, "Push tells false", func(k *heaptest.Kind) {
		k.Push = func(a *arena.Arena, r, i int) (int, bool) {
			r, _ = leftist.Push(a, r, i)
			return r, false
		}
	})
	mustTell(t, "Push without a cell tells None", func(k *heaptest.Kind) {
		k.Push = func(a *arena.Arena, r, i int) (int, bool) {
			if s, ok := leftist.Push(a, r, i); ok {
				return s, true
			}
			return api.None, false
		}
	})
	mustTell(t, "Push changes the item", func(k *heaptest.Kind) {
		k.Push = func(a *arena.Arena, r, i int) (int, bool) {
			if a != nil {
				a.Set(i, api.Mark, 1)
			}
			return leftist.Push(a, r, i)
		}
	})
	mustTell(t, "Push takes too many steps", func(k *heaptest.Kind) {
		k.Push = func(a *arena.Arena, r, i int) (int, bool) {
			if a != nil {
				a.Meter().Tick(10 * api.A)
			}
			return leftist.Push(a, r, i)
		}
	})
}

func TestFaultsOfMin(t *testing.T) {
	mustTell(t, "Min tells the last item", func(k *heaptest.Kind) {
		k.Min = func(a *arena.Arena, r int) int {
			if l := leftist.All(a, r); len(l) > 0 {
				return l[len(l)-1]
			}
			return api.None
		}
	})
	mustTell(t, "Min panics", func(k *heaptest.Kind) {
		k.Min = func(a *arena.Arena, r int) int {
			if r > api.MaxCells && a != nil {
				panic("so great a root")
			}
			return leftist.Min(a, r)
		}
	})
}

func TestFaultsOfPop(t *testing.T) {
	mustTell(t, "Pop gives the item back", func(k *heaptest.Kind) {
		k.Pop = func(a *arena.Arena, r int) (int, int) {
			r, i := leftist.Pop(a, r)
			if a != nil {
				a.Give(i)
			}
			return r, i
		}
	})
	mustTell(t, "Pop leaves a Node", func(k *heaptest.Kind) {
		k.Pop = func(a *arena.Arena, r int) (int, int) {
			s, i := leftist.Pop(a, r)
			if a != nil {
				a.Set(i, api.Node, int64(r))
			}
			return s, i
		}
	})
	mustTell(t, "Pop keeps the node", func(k *heaptest.Kind) {
		k.Pop = func(a *arena.Arena, r int) (int, int) {
			r, i := leftist.Pop(a, r)
			if a != nil && i != api.None {
				a.Take()
			}
			return r, i
		}
	})
	mustTell(t, "Pop of None tells 0", func(k *heaptest.Kind) {
		k.Pop = func(a *arena.Arena, r int) (int, int) {
			r, i := leftist.Pop(a, r)
			return r, max(i, 0)
		}
	})
}

func TestFaultsOfFallAndCut(t *testing.T) {
	mustTell(t, "Fall does nothing", func(k *heaptest.Kind) {
		k.Fall = func(a *arena.Arena, r, i int) int {
			if a == nil {
				return api.None
			}
			return r
		}
	})
	mustTell(t, "Cut does nothing", func(k *heaptest.Kind) {
		k.Cut = func(a *arena.Arena, r, i int) int {
			if a == nil {
				return api.None
			}
			return r
		}
	})
	mustTell(t, "Cut pops", func(k *heaptest.Kind) {
		k.Cut = func(a *arena.Arena, r, i int) int {
			r, _ = leftist.Pop(a, r)
			return r
		}
	})
}

func TestFaultsOfMeld(t *testing.T) {
	mustTell(t, "Meld forgets a heap", func(k *heaptest.Kind) {
		k.Meld = func(a *arena.Arena, r, s int) int {
			if a == nil || s == api.None {
				return leftist.Meld(a, r, s)
			}
			return s
		}
	})
	mustTell(t, "Meld changes a third heap", func(k *heaptest.Kind) {
		k.Meld = func(a *arena.Arena, r, s int) int {
			r = leftist.Meld(a, r, s)
			if a != nil {
				a.Set(item.Node(a, 120), api.Mark, 1) // of the third heap, where there is one
			}
			return r
		}
	})
}

func TestFaultsOfAllAndDrop(t *testing.T) {
	mustTell(t, "All is not in order", func(k *heaptest.Kind) {
		k.All = func(a *arena.Arena, r int) []int {
			l := leftist.All(a, r)
			slices.Reverse(l)
			return l
		}
	})
	mustTell(t, "All tells its memory again", func(k *heaptest.Kind) {
		var kept []int
		k.All = func(a *arena.Arena, r int) []int {
			kept = append(kept[:0], leftist.All(a, r)...)
			return kept
		}
	})
	mustTell(t, "All tells what it told", func(k *heaptest.Kind) {
		var kept []int
		k.All = func(a *arena.Arena, r int) []int {
			if l := leftist.All(a, r); len(l) != len(kept) {
				kept = l
			}
			return kept
		}
	})
	mustTell(t, "Drop keeps the nodes", func(k *heaptest.Kind) { k.Drop = leftist.All })
}

func TestFaultsOfTheShape(t *testing.T) {
	mustTell(t, "a field that no call sets", func(k *heaptest.Kind) {
		k.Shape = func(w *heaptest.Wood, what string, r int) int {
			if r != api.None {
				row := w.Row(r)
				w.Node(what, r, heaptest.Links{Up: api.None, Down: 0, Left: row[api.Left], Right: row[api.Right], Rank: row[api.Rank]})
			}
			return len(leftist.All(w.A, r))
		}
	})
	mustTell(t, "a node too few", func(k *heaptest.Kind) {
		k.Shape = func(w *heaptest.Wood, what string, r int) int { return len(leftist.All(w.A, r)) / 2 }
	})
	mustTell(t, "a lower limit of steps", func(k *heaptest.Kind) {
		k.Most = func(call string, n int) int64 { return heaptest.Most(call, n) / 50 }
	})
}
