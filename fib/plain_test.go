package fib_test

import (
	"maps"
	"slices"
	"strconv"
	"testing"

	"thicket/api"
	"thicket/heaptest"
	"thicket/item"
)

// spot is what the chapter says of an item's node: the item above it (None of a top one), its Rank and its Mark (0 of a top one, of which it may be either).
type spot struct {
	up         int
	rank, mark int64
}

// plain is a heap by the chapter's words: where each item is.
type plain map[int]spot

// seen is a heap as it is.
func seen(w *heaptest.Wood, h int) plain {
	p := plain{}
	for _, i := range w.Has[h] {
		n := item.Node(w.A, i)
		s := spot{up: w.A.Cell(w.A.Cell(n, api.Up), api.Item), rank: w.A.Get(n, api.Rank)}
		if s.up != api.None {
			s.mark = w.A.Get(n, api.Mark)
		}
		p[i] = s
	}
	return p
}

// top makes an item's node a top one: the node above it has a child less.
func (p plain) top(i int) {
	s, over := p[i], p[p[i].up]
	over.rank--
	p[s.up] = over
	p[i] = spot{up: api.None, rank: s.rank}
}

// rise is a Fall of an item that is before the one above it.
func (p plain) rise(i int) {
	for p[i].up != api.None {
		over := p[i].up
		p.top(i)
		s := p[over]
		switch {
		case s.up == api.None:
			return
		case s.mark == 0:
			s.mark = 1
			p[over] = s
			return
		}
		i = over
	}
}

// gone is a heap of which a top one has left: its children are top ones.
func (p plain) gone(i int) {
	delete(p, i)
	for j, s := range p {
		if s.up == i {
			p[j] = spot{up: api.None, rank: s.rank}
		}
	}
}

// below are the Ranks of those that are top ones here and are now children of i.
func (p plain) below(now plain, i int) []int64 {
	var l []int64
	for j, s := range p {
		if s.up == api.None && now[j].up == i {
			l = append(l, now[j].rank)
		}
	}
	slices.Sort(l)
	return l
}

// mustBe holds a heap against what it must be.
func mustBe(w *heaptest.Wood, what string, h int, want plain) {
	w.Helper()
	now := seen(w, h)
	if maps.Equal(now, want) {
		return
	}
	for i, s := range want {
		if now[i] != s {
			w.Fatalf("P12.1: %s: item %d: %v, must be %v", what, i, now[i], s)
		}
	}
	w.Fatalf("P12.1: %s: %d items, must be %d", what, len(now), len(want))
}

// mustBeMerged sees that of p's trees those of one Rank were made one, till all are unlike: a tree of Rank k that became one of Rank k + m has m new children, of the Ranks k to k + m - 1; of them the Mark is 0. All else is as it was.
func mustBeMerged(w *heaptest.Wood, what string, h int, p plain) {
	w.Helper()
	now, ranks := seen(w, h), map[int64]int{}
	for i, was := range p {
		is := now[i]
		if was.up != api.None {
			if is != was {
				w.Fatalf("P12.1: %s: item %d: %v, was %v", what, i, is, was)
			}
			continue
		}
		var want []int64
		for k := was.rank; k < is.rank; k++ {
			want = append(want, k)
		}
		if got := p.below(now, i); !slices.Equal(got, want) || is.mark != 0 {
			w.Fatalf("P12.1: %s: item %d: %v, was %v: its new children have Ranks %v", what, i, is, was, got)
		}
		if is.up == api.None {
			ranks[is.rank]++
		}
	}
	for k, n := range ranks {
		if n > 1 {
			w.Fatalf("P12.1: %s: %d top ones of Rank %d", what, n, k)
		}
	}
}

func push(w *heaptest.Wood, h int, key int64) int {
	w.Helper()
	want, i := seen(w, h), w.Fresh(key, int64(w.A.Len()))
	want[i] = spot{up: api.None}
	w.Push(h, i)
	mustBe(w, "Push", h, want)
	return i
}

func pop(w *heaptest.Wood, h int) {
	w.Helper()
	want := seen(w, h)
	want.gone(w.Pop(h))
	mustBeMerged(w, "Pop", h, want)
}

func fall(w *heaptest.Wood, h, i int, key int64) {
	w.Helper()
	want := seen(w, h)
	w.Fall(h, i, key)
	if up := want[i].up; up != api.None && w.Compare(i, up) < 0 {
		want.rise(i)
	}
	mustBe(w, "Fall", h, want)
}

func cut(w *heaptest.Wood, h, i int) {
	w.Helper()
	want := seen(w, h)
	want.rise(i)
	want.gone(i)
	w.Cut(h, i)
	mustBeMerged(w, "Cut", h, want)
}

func meld(w *heaptest.Wood, h, o int) {
	w.Helper()
	want := seen(w, h)
	maps.Copy(want, seen(w, o))
	w.Meld(h, o)
	mustBe(w, "Meld", h, want)
}

// binomial is a wood of one tree of Rank k, with an item for each of 2^k nodes.
func binomial(t *testing.T, k int) *heaptest.Wood {
	t.Helper()
	w := heaptest.Plant(t, kind(), 8<<k, 2)
	w.Add(0, heaptest.Each(1<<k+1, func(at int) int64 { return int64(at) })...)
	pop(w, 0)
	if got := w.A.Get(w.Root[0], api.Rank); got != int64(k) {
		t.Fatalf("P12.1: Pop of %d items: the root has Rank %d", 1<<k+1, got)
	}
	return w
}

// Each node of a tree leaves it, and behind it each other one: of two that leave one node, not a top one, the second takes it along.
func TestTwoLeaveATree(t *testing.T) {
	const k = 4
	calls := []func(w *heaptest.Wood, i int){
		func(w *heaptest.Wood, i int) { fall(w, 0, i, w.Key(w.Least(0))-1) },
		func(w *heaptest.Wood, i int) { cut(w, 0, i) },
	}
	for first := range 1 << k {
		for second := range 1 << k {
			for _, call := range calls {
				for _, other := range calls {
					w := binomial(t, k)
					l := slices.Clone(w.Has[0])
					call(w, l[first])
					w.Right("one has left")
					if slices.Contains(w.Has[0], l[second]) {
						other(w, l[second])
						w.Right("another one has left")
					}
					pop(w, 0)
					w.Right("Pop")
				}
			}
		}
	}
}

// All nodes leave a tree, the last ones first or in any order, and go on as top ones, some with a Mark, till a Pop makes them children again.
func TestAllLeaveATree(t *testing.T) {
	m := heaptest.Mix(30)
	for run := range 12 {
		w := binomial(t, 6)
		l := slices.Clone(w.Has[0])
		slices.Reverse(l)
		if run > 0 {
			l = m.Shuffle(l)
		}
		for _, i := range l {
			if !slices.Contains(w.Has[0], i) {
				continue
			}
			fall(w, 0, i, w.Key(w.Least(0))-int64(m.Below(2)))
			w.Right("Fall")
			if run > 1 && m.Below(run) == 0 {
				pop(w, 0)
				w.Right("Pop")
			}
		}
		for len(w.Has[0]) > 0 {
			pop(w, 0)
			w.Right("Pop of all")
		}
	}
}

// lose makes an item's node, not a top one, lose a child, and sees that it has a Mark then and stays where it is.
func lose(w *heaptest.Wood, i int) {
	w.Helper()
	up := seen(w, 0)[i].up
	for _, c := range w.Has[0] {
		if seen(w, 0)[c].up == i {
			fall(w, 0, c, w.Key(i)-1)
			break
		}
	}
	if s := seen(w, 0)[i]; s.mark != 1 || s.up != up {
		w.Fatalf("P12.1: item %d, whose node has lost a child: %v", i, s)
	}
}

// A child that has lost one has a Mark, and none any more when it becomes a child anew: it may lose one more then.
func TestMarkOfANewChild(t *testing.T) {
	w := binomial(t, 3)
	i := api.None
	for _, j := range w.Has[0] {
		if seen(w, 0)[j].rank == 2 {
			i = j
		}
	}
	lose(w, i)
	pop(w, 0) // of the root, which is above it
	for n := int64(-1); seen(w, 0)[i].up == api.None; n -= 4 {
		for key := range int64(4) {
			push(w, 0, n-key)
		}
		pop(w, 0)
	}
	if s := seen(w, 0)[i]; s.mark != 0 {
		t.Errorf("P12.1: item %d, whose node is a child anew: %v", i, s)
	}
	lose(w, i)
	w.Right("a child has lost one again")
}

// anyCall makes one call of any heap.
func anyCall(w *heaptest.Wood, m *heaptest.Mixed, keys int) {
	w.Helper()
	h := m.Below(len(w.Root))
	what, l := m.Below(20), w.Has[h]
	switch {
	case what < 7 && w.A.Len()+2 <= w.A.Cells():
		push(w, h, int64(m.Below(keys)))
	case len(l) == 0:
	case what < 10:
		pop(w, h)
	case what < 16:
		i := m.One(l)
		fall(w, h, i, w.Key(i)-int64(m.Below(keys)))
	case what < 18:
		cut(w, h, m.One(l))
	case what == 18:
		meld(w, h, (h+1)%len(w.Root))
	}
	for len(w.Out) > 0 {
		w.A.Give(w.Out[0])
		w.Out = w.Out[1:]
	}
}

func TestAnyCalls(t *testing.T) {
	m := heaptest.Mix(31)
	for run := range 60 {
		w := heaptest.Plant(t, kind(), 20+m.Below(300), 2)
		for n := range 300 {
			anyCall(w, m, 1+m.Below(1+run*run))
			w.Right("run " + strconv.Itoa(run) + ", call " + strconv.Itoa(n))
		}
	}
}
