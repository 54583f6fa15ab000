package kind_test

import (
	"math"
	"slices"
	"strconv"
	"testing"

	"thicket/api"
	"thicket/arena"
	"thicket/binomial"
	"thicket/fib"
	"thicket/heaptest"
	"thicket/kind"
	"thicket/leftist"
	"thicket/pairing"
	"thicket/skew"
)

// kinds are all there are.
func kinds() []int {
	return []int{api.Leftist, api.Binomial, api.Skew, api.Fibonacci, api.Pairing}
}

// noKinds are numbers that are none.
func noKinds() []int {
	l := []int{math.MinInt, math.MinInt + 1, math.MaxInt - 1, math.MaxInt}
	for k := -9; k <= 20; k++ {
		if !slices.Contains(kinds(), k) {
			l = append(l, k)
		}
	}
	for _, k := range kinds() {
		l = append(l, k+1<<8, k+1<<16, k+1<<32, k-1<<32, k+math.MinInt, -k)
	}
	return l
}

// own are the calls of that kind's package.
func own(k int) heaptest.Kind {
	switch k {
	case api.Leftist:
		return heaptest.Kind{
			Push: leftist.Push, Min: leftist.Min, Pop: leftist.Pop, Fall: leftist.Fall,
			Cut: leftist.Cut, Meld: leftist.Meld, All: leftist.All, Drop: leftist.Drop,
		}
	case api.Binomial:
		return heaptest.Kind{
			Push: binomial.Push, Min: binomial.Min, Pop: binomial.Pop, Fall: binomial.Fall,
			Cut: binomial.Cut, Meld: binomial.Meld, All: binomial.All, Drop: binomial.Drop,
		}
	case api.Skew:
		return heaptest.Kind{
			Push: skew.Push, Min: skew.Min, Pop: skew.Pop, Fall: skew.Fall,
			Cut: skew.Cut, Meld: skew.Meld, All: skew.All, Drop: skew.Drop,
		}
	case api.Fibonacci:
		return heaptest.Kind{
			Push: fib.Push, Min: fib.Min, Pop: fib.Pop, Fall: fib.Fall,
			Cut: fib.Cut, Meld: fib.Meld, All: fib.All, Drop: fib.Drop,
		}
	}
	return heaptest.Kind{
		Push: pairing.Push, Min: pairing.Min, Pop: pairing.Pop, Fall: pairing.Fall,
		Cut: pairing.Cut, Meld: pairing.Meld, All: pairing.All, Drop: pairing.Drop,
	}
}

// asked are the calls of a number, whatever it is; steps are held as W2 says. Shapes are told against those of the kind's own calls.
func asked(k int) heaptest.Kind {
	return heaptest.Kind{
		Chapter: "W1 and W2, kind " + strconv.Itoa(k),
		Push:    func(a *arena.Arena, r, i int) (int, bool) { return kind.Push(k, a, r, i) },
		Min:     func(a *arena.Arena, r int) int { return kind.Min(k, a, r) },
		Pop:     func(a *arena.Arena, r int) (int, int) { return kind.Pop(k, a, r) },
		Fall:    func(a *arena.Arena, r, i int) int { return kind.Fall(k, a, r, i) },
		Cut:     func(a *arena.Arena, r, i int) int { return kind.Cut(k, a, r, i) },
		Meld:    func(a *arena.Arena, r, s int) int { return kind.Meld(k, a, r, s) },
		All:     func(a *arena.Arena, r int) []int { return kind.All(k, a, r) },
		Drop:    func(a *arena.Arena, r int) []int { return kind.Drop(k, a, r) },
		Shape:   func(w *heaptest.Wood, _ string, r int) int { return len(kind.All(k, w.A, r)) },
		Most:    heaptest.Most, Together: !kind.Worst(k), Shared: !kind.Worst(k),
	}
}

func TestRight(t *testing.T) {
	for _, k := range kinds() {
		if !kind.Right(k) {
			t.Errorf("P15.1: Right(%d): false", k)
		}
	}
	for _, k := range noKinds() {
		if kind.Right(k) {
			t.Errorf("P15.1: Right(%d): true", k)
		}
	}
}

func TestWorst(t *testing.T) {
	worst := []int{api.Leftist, api.Binomial, api.Skew}
	for _, k := range append(kinds(), noKinds()...) {
		if got := kind.Worst(k); got != slices.Contains(worst, k) {
			t.Errorf("P15.1: Worst(%d): %t", k, got)
		}
	}
}

// The table 'Runs', and the examples.
func TestRuns(t *testing.T) {
	if kind.Right(0) || !kind.Right(5) {
		t.Errorf("P15.1: Right(0), Right(5): %t, %t", kind.Right(0), kind.Right(5))
	}
	if kind.Worst(api.Fibonacci) {
		t.Error("P15.1: Worst(Fibonacci): true")
	}
	if i := kind.Min(9, arena.New(3), 0); i != api.None {
		t.Errorf("P15.1: Min(9, a, 0): %d", i)
	}
}

// W1 and W2: what heaps of every kind must pass, asked by the kind's number.
func TestAsEveryKind(t *testing.T) {
	some := []string{
		"None", "One", "Push", "PushWithoutACell", "PushAgain", "ItemsThatAreTheSame", "Serials", "Min", "Pop", "Fall",
		"Cut", "CutOfTheLeast", "Meld", "MeldOfManyHeaps", "All", "Drop", "ArenasStandByThemselves", "StepsAreCounted",
		"AgainstPlainSets", "NilArena", "NoCells", "AnyInt", "AnyCell", "RootsThatAreOver", "OneTwice",
	}
	for _, k := range kinds() {
		for _, test := range heaptest.Tests() {
			if slices.Contains(some, test.Name) {
				t.Run(strconv.Itoa(k)+test.Name, func(t *testing.T) { test.Run(t, asked(k)) })
			}
		}
	}
}

// W2: steps of great heaps. One order of keys for each kind: its own package's tests have all.
func TestGreatHeaps(t *testing.T) {
	for _, k := range kinds() {
		m, keys := heaptest.Mix(uint64(k)), heaptest.Drawn(heaptest.Many)
		w := heaptest.Greatly(t, asked(k), 2*heaptest.Many, 2)
		w.Add(0, keys[:heaptest.Many/2]...)
		w.Add(1, keys[heaptest.Many/2:]...)
		w.Meld(0, 1)
		w.Right("Meld")
		for range 400 {
			i := m.One(w.Has[0])
			w.Fall(0, i, min(w.Key(i), int64(m.Below(99))))
			w.Cut(0, m.One(w.Has[0]))
		}
		w.Right("Fall and Cut")
		for range 400 {
			w.Pop(0)
		}
		w.Right("Pop")
		w.Drop(0)
		w.Right("Drop")
	}
}
