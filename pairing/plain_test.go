package pairing_test

import (
	"slices"
	"strconv"
	"strings"
	"testing"

	"thicket/api"
	"thicket/heaptest"
	"thicket/pairing"
)

// plain is a heap by the chapter's words: an item, and what is below it, the first child first. One of no items is nil.
type plain struct {
	item  int
	below []*plain
}

// seen is a heap as it is.
func seen(w *heaptest.Wood, h int) *plain { return read(w, w.Root[h]) }

func read(w *heaptest.Wood, n int) *plain {
	if n == api.None {
		return nil
	}
	p := &plain{item: w.A.Cell(n, api.Item)}
	for c := w.A.Cell(n, api.Down); c != api.None; c = w.A.Cell(c, api.Right) {
		p.below = append(p.below, read(w, c))
	}
	return p
}

// linked makes one of two: the one whose item is not before the other's becomes the other's first child.
func linked(w *heaptest.Wood, p, q *plain) *plain {
	switch {
	case p == nil:
		return q
	case q == nil:
		return p
	case w.Compare(q.item, p.item) < 0:
		p, q = q, p
	}
	return &plain{item: p.item, below: slices.Insert(slices.Clone(p.below), 0, q)}
}

// made makes one of children: what the first two are linked to is linked last.
func made(w *heaptest.Wood, l []*plain) *plain {
	switch len(l) {
	case 0:
		return nil
	case 1:
		return l[0]
	}
	return linked(w, made(w, l[2:]), linked(w, l[0], l[1]))
}

// without is a heap that an item, not its root's, has left with all that is below it, and that.
func (p *plain) without(i int) (*plain, *plain) {
	rest := &plain{item: p.item}
	var gone *plain
	for _, c := range p.below {
		if c.item == i {
			gone = c
			continue
		}
		left, found := c.without(i)
		rest.below = append(rest.below, left)
		if found != nil {
			gone = found
		}
	}
	return rest, gone
}

// same tells whether two heaps are the same, place for place.
func same(p, q *plain) bool {
	if p == nil || q == nil {
		return p == q
	}
	return p.item == q.item && slices.EqualFunc(p.below, q.below, same)
}

// text tells a heap's keys: that of the root, and in brackets those of its children.
func (p *plain) text(w *heaptest.Wood) string {
	if p == nil {
		return "none"
	}
	text := strconv.FormatInt(w.Key(p.item), 10)
	var l []string
	for _, c := range p.below {
		l = append(l, c.text(w))
	}
	if len(l) > 0 {
		text += "(" + strings.Join(l, " ") + ")"
	}
	return text
}

// mustBe holds a heap against what it must be.
func mustBe(w *heaptest.Wood, what string, h int, want *plain) {
	w.Helper()
	if now := seen(w, h); !same(now, want) {
		w.Fatalf("P13.1: %s: %s, must be %s", what, now.text(w), want.text(w))
	}
}

func push(w *heaptest.Wood, h int, key int64) {
	w.Helper()
	i := w.Fresh(key, int64(w.A.Len()))
	want := linked(w, seen(w, h), &plain{item: i})
	w.Push(h, i)
	mustBe(w, "Push", h, want)
}

func pop(w *heaptest.Wood, h int) {
	w.Helper()
	want := made(w, seen(w, h).below)
	w.Pop(h)
	mustBe(w, "Pop", h, want)
}

func fall(w *heaptest.Wood, h, i int, key int64) {
	w.Helper()
	was := seen(w, h)
	rest, gone := was.without(i)
	w.Fall(h, i, key)
	mustBe(w, "Fall", h, linked(w, rest, gone))
}

func cut(w *heaptest.Wood, h, i int) {
	w.Helper()
	want := seen(w, h)
	if want.item == i {
		want = made(w, want.below)
	} else {
		rest, gone := want.without(i)
		want = linked(w, rest, made(w, gone.below))
	}
	w.Cut(h, i)
	mustBe(w, "Cut", h, want)
}

func meld(w *heaptest.Wood, h, o int) {
	w.Helper()
	want := linked(w, seen(w, h), seen(w, o))
	w.Meld(h, o)
	mustBe(w, "Meld", h, want)
}

// of is the item of a key in a heap.
func of(w *heaptest.Wood, h int, key int64) int {
	w.Helper()
	for _, i := range w.Has[h] {
		if w.Key(i) == key {
			return i
		}
	}
	w.Fatalf("no item of key %d", key)
	return api.None
}

// making is calls of a heap of some keys, and what they must make of it, written out by the chapter's words.
type making struct {
	what  string
	keys  []int64
	calls func(w *heaptest.Wood)
	want  string
}

func mustMake(t *testing.T, l ...making) {
	t.Helper()
	for _, m := range l {
		w := heaptest.Plant(t, kind(), 40, 2)
		w.Add(0, m.keys...)
		m.calls(w)
		w.Right(m.what)
		if got := seen(w, 0).text(w); got != m.want {
			t.Errorf("P13.1: %s: %s, must be %s", m.what, got, m.want)
		}
	}
}

// some are keys that make 1(2 9 3(8 5)).
func some() []int64 { return []int64{5, 3, 8, 1, 9, 2} }

func TestPush(t *testing.T) {
	none := func(*heaptest.Wood) {}
	mustMake(t,
		making{"no Push", nil, none, "none"},
		making{"one Push", some()[:1], none, "5"},
		making{"Push of a lesser one", some()[:2], none, "3(5)"},
		making{"Push of a greater one", some()[:3], none, "3(8 5)"},
		making{"Push of the least one", some()[:4], none, "1(3(8 5))"},
		making{"Push of six", some(), none, "1(2 9 3(8 5))"},
		making{"Push of rising keys", rising(8), none, "0(7 6 5 4 3 2 1)"},
		making{"Push of falling keys", falling(4), none, "-3(-2(-1(0)))"},
		making{"Push of like keys", []int64{4, 4, 4}, none, "4(4 4)"},
		making{"Push of the ends", heaptest.Edges()[1:4], none, "-9223372036854775808(-1 9223372036854775807)"},
	)
}

func TestPop(t *testing.T) {
	once := func(w *heaptest.Wood) { w.Pop(0) }
	twice := func(w *heaptest.Wood) { w.Pop(0); w.Pop(0) }
	thrice := func(w *heaptest.Wood) { once(w); twice(w) }
	mustMake(t,
		making{"Pop of one", some()[:1], once, "none"},
		making{"Pop, one child", some()[:2], once, "5"},
		making{"Pop, two children", some()[:3], once, "5(8)"},
		making{"Pop, three children", some(), once, "2(3(8 5) 9)"},
		making{"a second Pop", some(), twice, "3(9 8 5)"},
		making{"a third Pop", some(), thrice, "5(8(9))"},
		making{"Pop, four children", rising(5), once, "1(3(4) 2)"},
		making{"Pop, five children", rising(6), once, "1(4(5) 2(3))"},
		making{"Pop, six children", rising(7), once, "1(5(6) 3(4) 2)"},
		making{"Pop, seven children", rising(8), once, "1(6(7) 4(5) 2(3))"},
	)
}

// falls lowers an item from one key to another.
func falls(from, to int64) func(w *heaptest.Wood) {
	return func(w *heaptest.Wood) {
		w.Helper()
		w.Fall(0, of(w, 0, from), to)
	}
}

func TestFall(t *testing.T) {
	mustMake(t,
		making{"Fall of the root", some(), falls(1, 0), "0(2 9 3(8 5))"},
		making{"Fall of the first child to the same key", some(), falls(2, 2), "1(2 9 3(8 5))"},
		making{"Fall of the last child to the same key", some(), falls(3, 3), "1(3(8 5) 2 9)"},
		making{"Fall that stays behind the Up's", some(), falls(5, 4), "1(4 2 9 3(8))"},
		making{"Fall that stays behind the root's", some(), falls(8, 2), "1(2 2 9 3(5))"},
		making{"Fall ahead of the root's", some(), falls(8, 0), "0(1(2 9 3(5)))"},
		making{"Fall of the middle child ahead of the root's", some(), falls(9, 0), "0(1(2 3(8 5)))"},
		making{"Fall of the first child ahead of the root's", some(), falls(2, 0), "0(1(9 3(8 5)))"},
		making{"Fall of one with children ahead of the root's", some(), falls(3, 0), "0(1(2 9) 8 5)"},
	)
}

// cuts takes out the item of a key.
func cuts(key int64) func(w *heaptest.Wood) {
	return func(w *heaptest.Wood) {
		w.Helper()
		w.Cut(0, of(w, 0, key))
	}
}

func TestCut(t *testing.T) {
	mustMake(t,
		making{"Cut of the one", some()[:1], cuts(5), "none"},
		making{"Cut of the root", some(), cuts(1), "2(3(8 5) 9)"},
		making{"Cut of one with children", some(), cuts(3), "1(5(8) 2 9)"},
		making{"Cut of one with seven children", append(rising(8), -1), cuts(0), "-1(1(6(7) 4(5) 2(3)))"},
		making{"Cut of the first child", some(), cuts(2), "1(9 3(8 5))"},
		making{"Cut of the middle child", some(), cuts(9), "1(2 3(8 5))"},
		making{"Cut of a child's first child", some(), cuts(8), "1(2 9 3(5))"},
		making{"Cut of a child's last child", some(), cuts(5), "1(2 9 3(8))"},
	)
}

// melds melds with a heap of these keys.
func melds(keys ...int64) func(w *heaptest.Wood) {
	return func(w *heaptest.Wood) {
		w.Helper()
		w.Add(1, keys...)
		w.Meld(0, 1)
	}
}

func TestMeld(t *testing.T) {
	mustMake(t,
		making{"Meld with None", some(), melds(), "1(2 9 3(8 5))"},
		making{"Meld of None", nil, melds(2, 7), "2(7)"},
		making{"Meld of None with None", nil, melds(), "none"},
		making{"Meld with a greater root", some()[:3], melds(6, 7), "3(6(7) 8 5)"},
		making{"Meld with a lesser root", some()[:3], melds(2, 7), "2(3(8 5) 7)"},
		making{"Meld with a like root", some()[:3], melds(3, 7), "3(3(7) 8 5)"},
	)
}

// Of like items the lower cell is before the other, so a link hangs on nothing but what is linked.
func TestLinkOfLikeItems(t *testing.T) {
	for _, order := range [][2]int{{0, 1}, {1, 0}} {
		w := heaptest.Plant(t, kind(), 4, 1)
		l := []int{w.Fresh(7, 7), w.Fresh(7, 7)}
		w.Push(0, l[order[0]])
		w.Push(0, l[order[1]])
		mustBe(w, "Push of like items", 0, &plain{item: l[0], below: []*plain{{item: l[1]}}})
	}
}

func TestPushAndPopOfAllSizes(t *testing.T) {
	for n := range 50 {
		for _, l := range heaptest.Orders(n) {
			w := heaptest.Plant(t, kind(), 2*n, 1)
			for _, key := range l.Keys {
				push(w, 0, key)
			}
			w.Right("Push of " + l.How + " keys")
			for len(w.Has[0]) > 0 {
				pop(w, 0)
				w.Right("Pop of " + l.How + " keys")
			}
		}
	}
}

// family is a wood of two heaps: one of which the root has n children, some of them with children that have some again, and one of a few others.
func family(t *testing.T, n int) *heaptest.Wood {
	t.Helper()
	w := heaptest.Plant(t, kind(), 200, 3)
	w.Add(0, 0)
	for at := range n {
		key := int64(10 * (1 + at*7%n))
		w.Add(1, key)
		for below := range at % 4 {
			w.Add(2, heaptest.Each(1+below, func(at int) int64 { return key + int64(1+below+at) })...)
			w.Meld(1, 2)
		}
		w.Meld(0, 1)
	}
	if got := len(seen(w, 0).below); got != n {
		t.Fatalf("P13.1: the root has %d children, must have %d", got, n)
	}
	w.Add(1, 20, 40, 30)
	w.Right("a family")
	return w
}

// Each node of many a heap falls: to where it is, to next to its Up's, and to ahead of all.
func TestFallOfEach(t *testing.T) {
	for n := range 12 {
		for at := range family(t, n).Has[0] {
			for _, by := range []int64{0, 1, 2, 5, 10, 30, 70, 1000} {
				w := family(t, n)
				i := w.Has[0][at]
				if i == w.Least(0) {
					continue
				}
				fall(w, 0, i, w.Key(i)-by)
				w.Right("Fall")
				pop(w, 0)
				w.Right("Pop")
			}
		}
	}
}

// Each node of many a heap is cut.
func TestCutOfEach(t *testing.T) {
	for n := range 12 {
		for at := range family(t, n).Has[0] {
			w := family(t, n)
			cut(w, 0, w.Has[0][at])
			w.Right("Cut")
			for len(w.Has[0]) > 0 {
				cut(w, 0, w.Has[0][at%len(w.Has[0])])
				w.Right("Cut")
			}
		}
	}
}

func TestMeldOfEach(t *testing.T) {
	for n := range 12 {
		for h := range 2 {
			w := family(t, n)
			meld(w, h, 1-h)
			w.Right("Meld")
			meld(w, 1-h, h)
			w.Right("Meld of none")
			meld(w, 1-h, h)
			w.Right("Meld with none")
			for len(w.Has[1-h]) > 0 {
				pop(w, 1-h)
				w.Right("Pop")
			}
		}
	}
}

// Min and All look, and change nothing; Drop gives all nodes back, whatever the shape.
func TestLookAndDrop(t *testing.T) {
	for n := range 12 {
		w := family(t, n)
		w.Stay("P13: Min and All", func() {
			for h := range 2 {
				pairing.Min(w.A, w.Root[h])
				pairing.All(w.A, w.Root[h])
			}
		})
		w.Drop(0)
		w.Right("Drop")
		w.Drop(1)
		w.Right("Drop of both")
		if live := len(w.Out); w.A.Len() != live {
			t.Errorf("P13: Drop: %d cells are taken, must be those of the items, %d", w.A.Len(), live)
		}
	}
}

// anyCall makes one call of any heap.
func anyCall(w *heaptest.Wood, m *heaptest.Mixed, keys int) {
	w.Helper()
	h := m.Below(len(w.Root))
	what, l := m.Below(20), w.Has[h]
	switch {
	case what < 7 && w.A.Len()+2 <= w.A.Cells():
		push(w, h, int64(m.Below(keys)))
	case len(l) == 0:
	case what < 10:
		pop(w, h)
	case what < 15:
		i := m.One(l)
		if i != seen(w, h).item {
			fall(w, h, i, w.Key(i)-int64(m.Below(keys)))
		}
	case what < 18:
		cut(w, h, m.One(l))
	case what == 18:
		meld(w, h, (h+1)%len(w.Root))
	}
	for len(w.Out) > 0 {
		w.A.Give(w.Out[0])
		w.Out = w.Out[1:]
	}
}

func TestAnyCalls(t *testing.T) {
	m := heaptest.Mix(33)
	for run := range 60 {
		w := heaptest.Plant(t, kind(), 20+m.Below(300), 2)
		for n := range 300 {
			anyCall(w, m, 1+m.Below(1+run*run))
			w.Right("run " + strconv.Itoa(run) + ", call " + strconv.Itoa(n))
		}
	}
}
