package pool_test

import (
	"math"
	"math/rand"
	"slices"
	"testing"

	"thicket/api"
	"thicket/pool"
)

func ref(at, gen int) api.Ref { return api.Ref{At: at, Gen: gen} }

// odd are Refs that tell no place and no life, or are likely to go wrong.
func odd() []api.Ref {
	numbers := []int{math.MinInt, math.MinInt + 1, -api.MaxCells, -2, -1, 0, 1, 2, 3, api.MaxCells - 1, api.MaxCells, math.MaxInt - 1, math.MaxInt}
	var l []api.Ref
	for _, at := range numbers {
		for _, gen := range numbers {
			l = append(l, ref(at, gen))
		}
	}
	return l
}

func mustTake[T any](t *testing.T, p *pool.Pool[T], v T, want api.Ref) {
	t.Helper()
	if got, ok := p.Take(v); !ok || got != want {
		t.Errorf("P2.1: Take: %v %t, must be %v", got, ok, want)
	}
}

func mustTakeNone[T any](t *testing.T, p *pool.Pool[T], v T) {
	t.Helper()
	if got, ok := p.Take(v); ok || got != ref(0, 0) {
		t.Errorf("P2.1: Take of none left: %v %t", got, ok)
	}
}

func mustGet[T comparable](t *testing.T, p *pool.Pool[T], r api.Ref, want T, why api.Errno) {
	t.Helper()
	if got, e := p.Get(r); got != want || e != why {
		t.Errorf("P2.2: Get(%v): %v %d, must be %v %d", r, got, e, want, why)
	}
}

func mustGive[T comparable](t *testing.T, p *pool.Pool[T], r api.Ref, want T, why api.Errno) {
	t.Helper()
	if got, e := p.Give(r); got != want || e != why {
		t.Errorf("P2.2: Give(%v): %v %d, must be %v %d", r, got, e, want, why)
	}
}

func mustSet[T any](t *testing.T, p *pool.Pool[T], r api.Ref, v T, why api.Errno) {
	t.Helper()
	if e := p.Set(r, v); e != why {
		t.Errorf("P2.2: Set(%v): %d, must be %d", r, e, why)
	}
}

func mustHave[T any](t *testing.T, p *pool.Pool[T], want ...api.Ref) {
	t.Helper()
	if got := p.All(); !slices.Equal(got, want) || p.Len() != len(want) {
		t.Errorf("P2.2: All, Len: %v, %d, must be %v", got, p.Len(), want)
	}
}

func TestPlaces(t *testing.T) {
	for _, c := range []struct{ places, want int }{
		{math.MinInt, 0}, {-1, 0}, {0, 0}, {1, 1}, {7, 7},
		{api.MaxCells - 1, api.MaxCells - 1}, {api.MaxCells, api.MaxCells},
		{api.MaxCells + 1, api.MaxCells}, {math.MaxInt, api.MaxCells},
	} {
		p := pool.New[int](c.places)
		if p.Places() != c.want {
			t.Errorf("P2.1: New(%d): %d places, must be %d", c.places, p.Places(), c.want)
		}
		mustHave(t, p)
		taken := 0
		for {
			r, ok := p.Take(taken)
			if !ok {
				break
			}
			if r != ref(taken, 1) {
				t.Fatalf("P2.1: New(%d): Take number %d: %v", c.places, taken, r)
			}
			taken++
		}
		if taken != c.want || p.Len() != c.want || p.Places() != c.want {
			t.Errorf("P2.1: New(%d): %d taken, Len %d, Places %d", c.places, taken, p.Len(), p.Places())
		}
		mustTakeNone(t, p, 1)
	}
}

func TestNoPlaces(t *testing.T) {
	p := pool.New[int](0)
	mustTakeNone(t, p, 5)
	for _, r := range odd() {
		mustGet(t, p, r, 0, api.ErrNone)
		mustSet(t, p, r, 1, api.ErrNone)
		mustGive(t, p, r, 0, api.ErrNone)
	}
	mustHave(t, p)
	mustTakeNone(t, p, 5)
}

func TestRun(t *testing.T) {
	p := pool.New[int](1)
	mustTake(t, p, 10, ref(0, 1))
	mustTakeNone(t, p, 11)
	mustGive(t, p, ref(0, 1), 10, api.OK)
	mustTake(t, p, 12, ref(0, 2))
	mustTakeNone(t, p, 13)
}

func TestTheLastGivenBackIsTakenFirst(t *testing.T) {
	p := pool.New[int](6)
	for at := range 4 {
		mustTake(t, p, at, ref(at, 1))
	}
	for _, at := range []int{2, 0, 3} {
		mustGive(t, p, ref(at, 1), at, api.OK)
	}
	mustTake(t, p, 30, ref(3, 2))
	mustGive(t, p, ref(1, 1), 1, api.OK)
	mustTake(t, p, 31, ref(1, 2))
	mustTake(t, p, 32, ref(0, 2))
	mustTake(t, p, 33, ref(2, 2))
	mustTake(t, p, 34, ref(4, 1))
	mustGive(t, p, ref(0, 2), 32, api.OK)
	mustTake(t, p, 35, ref(0, 3))
	mustTake(t, p, 36, ref(5, 1))
	mustTakeNone(t, p, 37)
	mustHave(t, p, ref(0, 3), ref(1, 2), ref(2, 2), ref(3, 2), ref(4, 1), ref(5, 1))
}

func TestWhatAPlaceHas(t *testing.T) {
	p := pool.New[string](3)
	mustTake(t, p, "a", ref(0, 1))
	mustTake(t, p, "b", ref(1, 1))
	mustGet(t, p, ref(0, 1), "a", api.OK)
	mustGet(t, p, ref(1, 1), "b", api.OK)
	mustSet(t, p, ref(0, 1), "c", api.OK)
	mustGet(t, p, ref(0, 1), "c", api.OK)
	mustGet(t, p, ref(0, 1), "c", api.OK)
	mustGet(t, p, ref(1, 1), "b", api.OK)
	mustSet(t, p, ref(1, 1), "", api.OK)
	mustGive(t, p, ref(1, 1), "", api.OK)
	mustGive(t, p, ref(0, 1), "c", api.OK)
	mustTake(t, p, "d", ref(0, 2))
	mustGet(t, p, ref(0, 2), "d", api.OK)
}

func TestNoLifeYet(t *testing.T) {
	p := pool.New[string](3)
	mustTake(t, p, "a", ref(0, 1))
	mustTake(t, p, "b", ref(1, 1))
	mustGive(t, p, ref(1, 1), "b", api.OK)
	// Place 2 was never taken, place 1 had one life that is over, place 0 has its first.
	for _, r := range []api.Ref{
		ref(-1, 1), ref(3, 1), ref(math.MaxInt, 1), ref(math.MinInt, 1),
		ref(0, 0), ref(0, -1), ref(0, math.MinInt), ref(0, 2), ref(0, math.MaxInt),
		ref(1, 0), ref(1, -1), ref(1, 2), ref(2, 1), ref(2, 0), ref(2, -1),
	} {
		mustGet(t, p, r, "", api.ErrNone)
		mustSet(t, p, r, "x", api.ErrNone)
		mustGive(t, p, r, "", api.ErrNone)
	}
	mustHave(t, p, ref(0, 1))
	mustGet(t, p, ref(0, 1), "a", api.OK)
}

func TestLivesThatAreOver(t *testing.T) {
	p := pool.New[int](2)
	for life := 1; life <= 5; life++ {
		mustTake(t, p, 100+life, ref(0, life))
		for over := 1; over < life; over++ {
			mustGet(t, p, ref(0, over), 0, api.ErrStale)
			mustSet(t, p, ref(0, over), 7, api.ErrStale)
			mustGive(t, p, ref(0, over), 0, api.ErrStale)
		}
		mustGet(t, p, ref(0, life), 100+life, api.OK)
		mustHave(t, p, ref(0, life))
		mustGive(t, p, ref(0, life), 100+life, api.OK)
		mustGet(t, p, ref(0, life), 0, api.ErrStale)
		mustSet(t, p, ref(0, life), 7, api.ErrStale)
		mustGive(t, p, ref(0, life), 0, api.ErrStale)
		mustGet(t, p, ref(0, life+1), 0, api.ErrNone)
		mustHave(t, p)
	}
	mustTake(t, p, 1, ref(0, 6))
	mustTake(t, p, 2, ref(1, 1))
	mustTakeNone(t, p, 3)
}

func TestRefusedCallsChangeNothing(t *testing.T) {
	p := pool.New[int](4)
	for at := range 4 {
		mustTake(t, p, 10+at, ref(at, 1))
	}
	mustTakeNone(t, p, 99)
	mustGive(t, p, ref(1, 1), 11, api.OK)
	mustGive(t, p, ref(3, 1), 13, api.OK)
	for _, r := range append(odd(), ref(1, 1), ref(3, 1)) {
		if _, why := p.Get(r); why == api.OK {
			continue
		}
		p.Set(r, 77)
		p.Give(r)
	}
	mustHave(t, p, ref(0, 1), ref(2, 1))
	mustGet(t, p, ref(0, 1), 10, api.OK)
	mustGet(t, p, ref(2, 1), 12, api.OK)
	mustTake(t, p, 14, ref(3, 2))
	mustTake(t, p, 15, ref(1, 2))
	mustTakeNone(t, p, 16)
}

func TestAllIsNewMemory(t *testing.T) {
	p := pool.New[int](8)
	for at := range 3 {
		mustTake(t, p, at, ref(at, 1))
	}
	first := p.All()
	for i := range first {
		first[i] = ref(-9, -9)
	}
	mustHave(t, p, ref(0, 1), ref(1, 1), ref(2, 1))
	one, two := p.All(), p.All()
	_ = append(one, ref(5, 5))
	_ = append(two, ref(6, 6))
	one[0] = ref(7, 7)
	if two[0] != ref(0, 1) {
		t.Errorf("R2: two answers of All share memory")
	}
	mustTake(t, p, 3, ref(3, 1))
	mustHave(t, p, ref(0, 1), ref(1, 1), ref(2, 1), ref(3, 1))
}

func TestPoolsStandByThemselves(t *testing.T) {
	p, q := pool.New[int](2), pool.New[int](2)
	mustTake(t, p, 1, ref(0, 1))
	mustHave(t, q)
	mustGet(t, q, ref(0, 1), 0, api.ErrNone)
	mustTake(t, q, 2, ref(0, 1))
	mustGive(t, q, ref(0, 1), 2, api.OK)
	mustGet(t, p, ref(0, 1), 1, api.OK)
}

type pair struct {
	name string
	n    int
}

func TestOtherTypes(t *testing.T) {
	s := pool.New[pair](1)
	mustTake(t, s, pair{"a", 1}, ref(0, 1))
	mustGet(t, s, ref(0, 1), pair{"a", 1}, api.OK)
	mustGive(t, s, ref(0, 1), pair{"a", 1}, api.OK)
	mustGet(t, s, ref(0, 1), pair{}, api.ErrStale)

	e := pool.New[struct{}](2)
	mustTake(t, e, struct{}{}, ref(0, 1))
	mustTake(t, e, struct{}{}, ref(1, 1))
	mustHave(t, e, ref(0, 1), ref(1, 1))

	l := pool.New[[]int](1)
	mustTake(t, l, []int{1, 2}, ref(0, 1))
	if v, why := l.Get(ref(0, 1)); why != api.OK || !slices.Equal(v, []int{1, 2}) {
		t.Errorf("P2.2: Get of a list: %v %d", v, why)
	}
	if v, why := l.Get(ref(0, 2)); why != api.ErrNone || v != nil {
		t.Errorf("R3: beside a refusal: %v %d", v, why)
	}
	if v, why := l.Give(ref(0, 1)); why != api.OK || !slices.Equal(v, []int{1, 2}) {
		t.Errorf("P2.2: Give of a list: %v %d", v, why)
	}
	if v, why := l.Give(ref(0, 1)); why != api.ErrStale || v != nil {
		t.Errorf("R3: beside a refusal: %v %d", v, why)
	}

	f := pool.New[func() int](1)
	mustTake(t, f, nil, ref(0, 1))
	mustSet(t, f, ref(0, 1), func() int { return 4 }, api.OK)
	if v, why := f.Get(ref(0, 1)); why != api.OK || v() != 4 {
		t.Errorf("P2.2: Get of a function: %d", why)
	}

	a := pool.New[any](1)
	mustTake(t, a, any([]int{1}), ref(0, 1))
	if v, why := a.Give(ref(0, 1)); why != api.OK || v == nil {
		t.Errorf("P2.2: Give of anything: %v %d", v, why)
	}
}

// plain is the pool by its words alone: every life that was, and which place each Give gave back.
type plain struct {
	values map[api.Ref]int
	over   map[api.Ref]bool
	lives  []int
	given  []int // every place given back, in time's order; taken out again when it is taken
}

func (m *plain) take(v int) (api.Ref, bool) {
	at := -1
	if n := len(m.given); n > 0 {
		at, m.given = m.given[n-1], m.given[:n-1]
	} else {
		at = slices.Index(m.lives, 0)
	}
	if at < 0 {
		return api.Ref{}, false
	}
	m.lives[at]++
	r := ref(at, m.lives[at])
	m.values[r] = v
	return r, true
}

func (m *plain) why(r api.Ref) api.Errno {
	if _, was := m.values[r]; !was {
		return api.ErrNone
	}
	if m.over[r] {
		return api.ErrStale
	}
	return api.OK
}

func (m *plain) all() []api.Ref {
	var l []api.Ref
	for at, gen := range m.lives {
		if r := ref(at, gen); gen > 0 && !m.over[r] {
			l = append(l, r)
		}
	}
	return l
}

func TestAgainstThePlainPool(t *testing.T) {
	q := rand.New(rand.NewSource(2))
	for range 60 {
		places := q.Intn(9)
		p := pool.New[int](places)
		m := &plain{values: map[api.Ref]int{}, over: map[api.Ref]bool{}, lives: make([]int, places)}
		told := map[api.Ref]bool{}
		for n := 1; n <= 400; n++ {
			r := ref(q.Intn(places+2)-1, q.Intn(8)-1)
			if live := m.all(); len(live) > 0 && q.Intn(2) == 0 {
				r = live[q.Intn(len(live))]
			}
			why := m.why(r)
			value := 0
			if why == api.OK {
				value = m.values[r]
			}
			switch q.Intn(4) {
			case 0:
				want, wantOk := m.take(n)
				got, ok := p.Take(n)
				if got != want || ok != wantOk {
					t.Fatalf("P2.1: Take: %v %t, must be %v %t", got, ok, want, wantOk)
				}
				if ok && told[got] {
					t.Fatalf("P2.3: %v was told twice", got)
				}
				told[got] = ok
			case 1:
				mustGet(t, p, r, value, why)
			case 2:
				mustSet(t, p, r, n, why)
				if why == api.OK {
					m.values[r] = n
				}
			case 3:
				mustGive(t, p, r, value, why)
				if why == api.OK {
					m.over[r] = true
					m.given = append(m.given, r.At)
				}
			}
			mustHave(t, p, m.all()...)
			if t.Failed() {
				return
			}
		}
	}
}

func TestNoRefTwice(t *testing.T) {
	p := pool.New[int](3)
	told := map[api.Ref]int{}
	var live []api.Ref
	for n := range 3000 {
		r, ok := p.Take(n)
		if !ok {
			victim := live[n*7%3]
			mustGive(t, p, victim, told[victim], api.OK)
			live = slices.DeleteFunc(live, func(x api.Ref) bool { return x == victim })
			continue
		}
		if _, twice := told[r]; twice {
			t.Fatalf("P2.3: %v was told twice", r)
		}
		told[r] = n
		live = append(live, r)
	}
}
