package heaps_test

import (
	"slices"
	"testing"

	"spillway/api"
	"spillway/heaps"
)

// checkNone fails if a method of a queue that is none does anything.
func checkNone(t *testing.T, what string, q *heaps.Queue[int]) {
	t.Helper()
	for method, want := range map[string]result{
		"push": {e: api.ErrNil}, "peek": {e: api.ErrNil}, "pop": {e: api.ErrNil}, "get": {e: api.ErrNil}, "set": {e: api.ErrNil}, "remove": {e: api.ErrNil},
	} {
		if r := do(q, step{method, 1, 5}); r != want {
			t.Errorf("%s: %s: %v", what, method, r)
		}
	}
	checkState(t, q, api.HpState[int]{})
}

func TestQueuesThatAreNone(t *testing.T) { // R5, P2.8
	checkNone(t, "nil", nil)
	checkNone(t, "zero", &heaps.Queue[int]{})
	checkNone(t, "new", new(heaps.Queue[int]))
	q := pushed(t, 4, 2)
	other := *q
	checkNone(t, "copy", &other)
	checkState(t, q, state(3, 2, 2, 1, 4))
	checkPush(t, q, 3, 3, api.OK)
	other = *q
	checkFirst(t, q, 2, 2, api.OK)
	*q = other
	checkState(t, q, state(4, 3, 3, 1, 4))
}

func TestStatesAreNotShared(t *testing.T) { // P2.8
	s := state(9, 5, 1, 2, 4, 7, 4)
	s.Items = append(make([]api.HpItem[int], 0, 20), s.Items...)
	given := s.Items[:20]
	before := slices.Clone(given)
	q := loaded(t, s)
	checkPush(t, q, 0, 9, api.OK)
	checkSet(t, q, 5, 8, api.OK)
	checkRemove(t, q, 2, 4, api.OK)
	checkFirst(t, q, 9, 0, api.OK)
	if !slices.Equal(given, before) {
		t.Errorf("the state that was loaded: %v, before %v", given, before)
	}
	clear(given)
	checkState(t, q, state(10, 7, 4, 5, 8))

	first, second := q.Save(), q.Save()
	clear(first.Items[:cap(first.Items)])
	checkState(t, q, state(10, 7, 4, 5, 8))
	if !same(second, state(10, 7, 4, 5, 8)) {
		t.Errorf("another state that was saved: %v", second)
	}
	checkPush(t, q, 0, 10, api.OK)
	checkRemove(t, q, 7, 4, api.OK)
	if !same(second, state(10, 7, 4, 5, 8)) {
		t.Errorf("a state that was saved before: %v", second)
	}
}

func TestLoadLeavesWrongStates(t *testing.T) { // P2.8
	for _, s := range []api.HpState[int]{state(3, 2, 0, 1, 0), state(3, 1, 1, 2, 0), state(3, 1, 0, 1, 0), state(3, 3, 0, 1, 0)} {
		before := api.HpState[int]{Next: s.Next, Items: slices.Clone(s.Items)}
		heaps.Load(ascending, s)
		if !same(s, before) {
			t.Errorf("Load has changed %v to %v", before, s)
		}
	}
}

func TestQueuesAreIndependent(t *testing.T) { // R6, P2.8
	s := state(4, 3, 1, 1, 2)
	a, b := loaded(t, s), loaded(t, s)
	checkPush(t, a, 0, 4, api.OK)
	checkRemove(t, a, 3, 1, api.OK)
	checkState(t, b, s)
	checkSet(t, b, 1, 0, api.OK)
	checkState(t, b, state(4, 1, 0, 3, 1))
	checkState(t, a, state(5, 4, 0, 1, 2))
}

// checkEveryOnce fails if the values of a queue whose order is none are not popped once each.
func checkEveryOnce(t *testing.T, what string, less func(a, b int) bool) {
	t.Helper()
	for _, size := range []int{1, 2, 3, 13, 60, 1000} {
		next := numbers(uint64(size))
		q := heaps.New(less)
		left := map[int64]int{}
		for range size {
			v := next(2 * size)
			h, e := q.Push(v)
			if e != api.OK {
				t.Fatalf("%s: Push: %d", what, e)
			}
			left[h] = v
		}
		for h := int64(1); h <= int64(size); h++ {
			left[h] = next(2 * size)
			if e := q.Set(h, left[h]); e != api.OK {
				t.Fatalf("%s: Set: %d", what, e)
			}
		}
		if v, e := q.Remove(1); v != left[1] || e != api.OK {
			t.Fatalf("%s: Remove: %d, %d", what, v, e)
		}
		delete(left, 1)
		s := q.Save()
		if len(s.Items) != len(left) || q.Len() != len(left) {
			t.Fatalf("%s: Save: %d values, want %d", what, len(s.Items), len(left))
		}
		heaps.Load(less, s)
		for range len(s.Items) {
			h, v, e := q.Pop()
			if want, ok := left[h]; !ok || v != want || e != api.OK {
				t.Fatalf("%s: Pop: %d, %d, %d, want %d", what, h, v, e, want)
			}
			delete(left, h)
		}
	}
}

func TestOrdersThatAreNone(t *testing.T) { // P2.8: all calls return, and no value is lost
	next := numbers(5)
	checkEveryOnce(t, "always", func(a, b int) bool { return true })
	checkEveryOnce(t, "or the same", func(a, b int) bool { return a <= b })
	checkEveryOnce(t, "in a circle", func(a, b int) bool { return (b-a+3000)%3 == 1 })
	checkEveryOnce(t, "at random", func(a, b int) bool { return next(2) == 0 })
	checkEveryOnce(t, "sometimes a panic", func(a, b int) bool {
		if a%3 == 0 {
			panic("no order")
		}
		return a < b
	})
}

func TestOrderThatPanicsSaysNothing(t *testing.T) { // P2.8
	q := heaps.New(func(a, b *int) bool { return *a < *b })
	two, one := 2, 1
	for i, v := range []*int{nil, nil, &two, &one} {
		if h, e := q.Push(v); h != int64(i)+1 || e != api.OK {
			t.Errorf("Push: %d, %d", h, e)
		}
	}
	for range 2 {
		q.Pop()
	}
	if n := q.Len(); n != 2 {
		t.Errorf("Len: %d", n)
	}
	always := func(a, b int) bool { panic("no order") }
	s := state(9, 2, 7, 3, 1, 8, 4)
	if q, e := heaps.Load(always, s); e != api.OK || !same(q.Save(), s) {
		t.Errorf("Load of values that are alike: %d", e)
	}
	if q, e := heaps.Load(always, state(9, 3, 1, 2, 7)); q != nil || e != api.ErrForm {
		t.Errorf("Load of values that are alike, in another order: %d", e)
	}
}

func TestPanicOfALoopIsTheCallers(t *testing.T) { // P2.4
	q := pushed(t, 4, 2)
	func() {
		defer func() {
			if r := recover(); r != "mine" {
				t.Errorf("recovered %v", r)
			}
		}()
		for range q.All() {
			panic("mine")
		}
	}()
	checkState(t, q, state(3, 2, 2, 1, 4))
}

func TestValuesOfAnyType(t *testing.T) { // P2.8
	things := heaps.New(func(a, b any) bool { return a == nil && b != nil })
	things.Push("x")
	things.Push(nil)
	things.Push([]int{1})
	if h, v, e := things.Pop(); h != 2 || v != nil || e != api.OK {
		t.Errorf("Pop of a nil: %d, %v, %d", h, v, e)
	}
	if v, e := things.Remove(3); len(v.([]int)) != 1 || e != api.OK {
		t.Errorf("Remove of a slice: %v, %d", v, e)
	}
	slow := heaps.New(func(a, b func() int) bool { return a() < b() })
	slow.Push(func() int { return 2 })
	slow.Push(func() int { return 1 })
	if h, v, e := slow.Pop(); h != 2 || v() != 1 || e != api.OK {
		t.Errorf("Pop of a function: %d, %d", h, e)
	}
	errs := heaps.New(func(a, b error) bool { return false })
	errs.Push(nil)
	if h, v, e := errs.Pop(); h != 1 || v != nil || e != api.OK {
		t.Errorf("Pop of a nil error: %d, %v, %d", h, v, e)
	}
	empty := heaps.New(func(a, b struct{}) bool { return false })
	empty.Push(struct{}{})
	if s := empty.Save(); s.Next != 2 || len(s.Items) != 1 {
		t.Errorf("Save of a value without size: %v", s)
	}
}
