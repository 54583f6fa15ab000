package ring_test

import (
	"math"
	"math/rand"
	"slices"
	"testing"

	"thicket/api"
	"thicket/ring"
)

func mustPush[T any](t *testing.T, r *ring.Ring[T], v T, want bool) {
	t.Helper()
	if got := r.Push(v); got != want {
		t.Errorf("P3.1: Push(%v): %t, must be %t", v, got, want)
	}
}

func mustPop[T comparable](t *testing.T, r *ring.Ring[T], want T, wantOk bool) {
	t.Helper()
	if got, ok := r.Pop(); got != want || ok != wantOk {
		t.Errorf("P3.1: Pop: %v %t, must be %v %t", got, ok, want, wantOk)
	}
}

func mustPeek[T comparable](t *testing.T, r *ring.Ring[T], i int, want T, wantOk bool) {
	t.Helper()
	if got, ok := r.Peek(i); got != want || ok != wantOk {
		t.Errorf("P3.1: Peek(%d): %v %t, must be %v %t", i, got, ok, want, wantOk)
	}
}

// mustHold asks everything that can be told of a ring without changing it; room is what New gave it.
func mustHold[T comparable](t *testing.T, r *ring.Ring[T], room int, want ...T) {
	t.Helper()
	if got := r.All(); !slices.Equal(got, want) {
		t.Errorf("P3.1: All: %v, must be %v", got, want)
	}
	if r.Len() != len(want) || r.Room() != room-len(want) {
		t.Errorf("P3.1: Len, Room: %d, %d, must be %d, %d", r.Len(), r.Room(), len(want), room-len(want))
	}
	for i, v := range want {
		mustPeek(t, r, i, v, true)
	}
	mustPeekNone(t, r)
}

// mustPeekNone asks for the ones ahead of the first and behind the last.
func mustPeekNone[T comparable](t *testing.T, r *ring.Ring[T]) {
	t.Helper()
	var zero T
	n := r.Len()
	for _, i := range []int{
		math.MinInt, math.MinInt + 1, -api.MaxRing - 1, -api.MaxRing, -n - 1, -2, -1,
		n, n + 1, n + r.Room(), 2*n + r.Room(), api.MaxRing, api.MaxRing + 1, math.MaxInt - 1, math.MaxInt,
	} {
		if i < 0 || i >= n {
			mustPeek(t, r, i, zero, false)
		}
	}
}

func TestRoom(t *testing.T) {
	for _, c := range []struct{ room, want int }{
		{math.MinInt, 1}, {-api.MaxRing, 1}, {-1, 1}, {0, 1}, {1, 1}, {2, 2}, {7, 7},
		{api.MaxRing - 1, api.MaxRing - 1}, {api.MaxRing, api.MaxRing},
		{api.MaxRing + 1, api.MaxRing}, {math.MaxInt - 1, api.MaxRing}, {math.MaxInt, api.MaxRing},
	} {
		r := ring.New[int](c.room)
		mustHold(t, r, c.want)
		for n := range c.want {
			if r.Len() != n || r.Room() != c.want-n {
				t.Fatalf("P3.1: New(%d): Len, Room: %d, %d behind %d Pushes", c.room, r.Len(), r.Room(), n)
			}
			mustPush(t, r, n, true)
		}
		mustPush(t, r, -1, false)
		if r.Len() != c.want || r.Room() != 0 {
			t.Errorf("P3.1: New(%d): Len, Room: %d, %d of a full one", c.room, r.Len(), r.Room())
		}
		for n := range c.want {
			mustPop(t, r, n, true)
			if r.Len() != c.want-n-1 || r.Room() != n+1 {
				t.Fatalf("P3.1: New(%d): Len, Room: %d, %d behind %d Pops", c.room, r.Len(), r.Room(), n+1)
			}
		}
		mustPop(t, r, 0, false)
		mustHold(t, r, c.want)
	}
}

func TestRun(t *testing.T) {
	r := ring.New[int](1)
	mustPush(t, r, 5, true)
	mustPush(t, r, 6, false)
	mustHold(t, r, 1, 5)
	mustPop(t, r, 5, true)
	mustPop(t, r, 0, false)
	mustPush(t, r, 7, true)
	mustHold(t, r, 1, 7)
}

func TestTheFirstGoesFirst(t *testing.T) {
	r := ring.New[string](3)
	mustPush(t, r, "a", true)
	mustHold(t, r, 3, "a")
	mustPush(t, r, "b", true)
	mustHold(t, r, 3, "a", "b")
	mustPop(t, r, "a", true)
	mustHold(t, r, 3, "b")
	mustPush(t, r, "c", true)
	mustPush(t, r, "d", true)
	mustHold(t, r, 3, "b", "c", "d")
	mustPush(t, r, "e", false)
	mustPop(t, r, "b", true)
	mustPop(t, r, "c", true)
	mustPush(t, r, "", true)
	mustPush(t, r, "d", true)
	mustHold(t, r, 3, "d", "", "d")
	mustPop(t, r, "d", true)
	mustPop(t, r, "", true)
	mustPop(t, r, "d", true)
	mustPop(t, r, "", false)
	mustHold(t, r, 3)
}

// A ring that holds the same number all the time still goes through all of its places, again and again.
func TestPlacesGoRound(t *testing.T) {
	for room := 1; room <= 6; room++ {
		for held := 1; held <= room; held++ {
			r := ring.New[int](room)
			var want []int
			for n := range 5*room + 3 {
				if len(want) == held {
					mustPop(t, r, want[0], true)
					want = want[1:]
					mustHold(t, r, room, want...)
				}
				mustPush(t, r, n, true)
				want = append(want, n)
				mustHold(t, r, room, want...)
			}
			if t.Failed() {
				t.Fatalf("room %d, %d held", room, held)
			}
		}
	}
}

func TestTheGreatestGoesRound(t *testing.T) {
	r := ring.New[int](math.MaxInt)
	for n := range api.MaxRing {
		mustPush(t, r, n, true)
	}
	for n := range 2*api.MaxRing + 5 {
		mustPush(t, r, -1, false)
		mustPeek(t, r, 0, n, true)
		mustPop(t, r, n, true)
		mustPush(t, r, n+api.MaxRing, true)
		mustPeek(t, r, api.MaxRing-1, n+api.MaxRing, true)
	}
	first := 2*api.MaxRing + 5
	for i, v := range r.All() {
		if v != first+i {
			t.Fatalf("P3.1: All: place %d: %d, must be %d", i, v, first+i)
		}
	}
	mustPeekNone(t, r)
}

func TestRefusedCallsChangeNothing(t *testing.T) {
	r := ring.New[int](3)
	for range 4 {
		mustPop(t, r, 0, false)
		mustPeekNone(t, r)
		mustHold(t, r, 3)
	}
	for n := 1; n <= 3; n++ {
		mustPush(t, r, n, true)
	}
	mustPop(t, r, 1, true)
	mustPush(t, r, 4, true)
	for range 4 {
		mustPush(t, r, 9, false)
		mustPeekNone(t, r)
		mustHold(t, r, 3, 2, 3, 4)
	}
	for n := 2; n <= 4; n++ {
		mustPop(t, r, n, true)
	}
	for range 4 {
		mustPop(t, r, 0, false)
		mustHold(t, r, 3)
	}
	mustPush(t, r, 5, true)
	mustHold(t, r, 3, 5)
}

// What was told once is not told beside a false.
func TestZeroBesideAFalse(t *testing.T) {
	r := ring.New[*int](2)
	v := new(int)
	mustPush(t, r, v, true)
	mustPush(t, r, v, true)
	mustPeek(t, r, 1, v, true)
	mustPeek(t, r, 2, nil, false)
	mustPeek(t, r, -1, nil, false)
	mustPop(t, r, v, true)
	mustPeek(t, r, 1, nil, false)
	mustPop(t, r, v, true)
	mustPeek(t, r, 0, nil, false)
	mustPop(t, r, nil, false)
}

func TestAllIsNewMemory(t *testing.T) {
	r := ring.New[int](4)
	for n := 1; n <= 4; n++ {
		mustPush(t, r, n, true)
	}
	for n := 1; n <= 2; n++ {
		mustPop(t, r, n, true)
	}
	mustPush(t, r, 5, true) // it goes round: some behind the last place, one place free
	one, two := r.All(), r.All()
	for i := range one {
		one[i] = -9
	}
	spare := one[:cap(one)]
	for i := range spare {
		spare[i] = -8
	}
	_ = append(one, -7)
	if !slices.Equal(two, []int{3, 4, 5}) {
		t.Errorf("R2: two answers of All share memory: %v", two)
	}
	mustHold(t, r, 4, 3, 4, 5)
	mustPush(t, r, 6, true)
	mustPop(t, r, 3, true)
	if !slices.Equal(two, []int{3, 4, 5}) {
		t.Errorf("R2: an answer of All is changed later: %v", two)
	}
	mustHold(t, r, 4, 4, 5, 6)
}

func TestRingsStandByThemselves(t *testing.T) {
	p, q := ring.New[int](2), ring.New[int](2)
	mustPush(t, p, 1, true)
	mustHold(t, q, 2)
	mustPush(t, q, 2, true)
	mustPush(t, q, 3, true)
	mustPop(t, q, 2, true)
	mustHold(t, p, 2, 1)
	mustHold(t, q, 2, 3)
}

type pair struct {
	name string
	n    int
}

func TestOtherTypes(t *testing.T) {
	s := ring.New[pair](1)
	mustPush(t, s, pair{"a", 1}, true)
	mustPush(t, s, pair{"b", 2}, false)
	mustHold(t, s, 1, pair{"a", 1})
	mustPop(t, s, pair{"a", 1}, true)
	mustPop(t, s, pair{}, false)

	e := ring.New[struct{}](2)
	mustPush(t, e, struct{}{}, true)
	mustPush(t, e, struct{}{}, true)
	mustPush(t, e, struct{}{}, false)
	mustHold(t, e, 2, struct{}{}, struct{}{})

	l := ring.New[[]int](2)
	mustPush(t, l, []int{1, 2}, true)
	mustPush(t, l, nil, true)
	if v, ok := l.Pop(); !ok || !slices.Equal(v, []int{1, 2}) {
		t.Errorf("P3.1: Pop of a list: %v %t", v, ok)
	}
	if v, ok := l.Pop(); !ok || len(v) != 0 {
		t.Errorf("P3.1: Pop of an empty list: %v %t", v, ok)
	}
	if v, ok := l.Pop(); ok || v != nil {
		t.Errorf("R3: beside a false: %v %t", v, ok)
	}

	f := ring.New[func() int](2)
	mustPush(t, f, nil, true)
	mustPush(t, f, func() int { return 4 }, true)
	if v, ok := f.Peek(1); !ok || v() != 4 {
		t.Errorf("P3.1: Peek of a function: %t", ok)
	}

	a := ring.New[any](3)
	mustPush(t, a, any([]int{1}), true)
	mustPush(t, a, any(nil), true)
	mustPush(t, a, any(math.NaN()), true)
	if v, ok := a.Pop(); !ok || v == nil {
		t.Errorf("P3.1: Pop of anything: %v %t", v, ok)
	}
	mustPop(t, a, nil, true)
	if a.Len() != 1 || a.Room() != 2 {
		t.Errorf("P3.1: Len, Room: %d, %d", a.Len(), a.Room())
	}
}

func TestAgainstAPlainList(t *testing.T) {
	q := rand.New(rand.NewSource(3))
	for _, room := range []int{1, 2, 3, 4, 5, 7, 8, 13, 64} {
		r := ring.New[int](room)
		var m []int
		for n := 1; n <= 3000; n++ {
			// The odds turn now and then, so that it is now full, now empty.
			if q.Intn(8) < 2+4*(n/(3*room)%2) {
				mustPush(t, r, n, len(m) < room)
				if len(m) < room {
					m = append(m, n)
				}
			} else if len(m) > 0 {
				mustPop(t, r, m[0], true)
				m = m[1:]
			} else {
				mustPop(t, r, 0, false)
			}
			mustHold(t, r, room, m...)
			if t.Failed() {
				t.Fatalf("room %d, call %d", room, n)
			}
		}
	}
}
